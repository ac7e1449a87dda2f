/- What is asked of package first; FirstVanish's walk. Package first: Of. slices.Backward over numbers: its closure's contract. Package first: what spread holds. -/
import Derived.Test.YtfhokapfkclckaaGreatK20
import Derived.Test.YtfhokapfkclckaaGreatK25
import Derived.Test.YtfhokapfkclckaaGreatK31
import Derived.Test.YtfhokapfkclckaaGreatK21
import Derived.Test.YtfhokapfkclckaaGreatK22
import Derived.Test.YtfhokapfkclckaaGreatK24
import Derived.RangeFuncNested
import Derived.RangeFuncBound
import Derived.RangeFuncCalls
import Derived.RangeFuncLeaves
import Derived.Shelf.Abstract
import Derived.Shelf.RegionOpen
import Derived.WalkKit
import Derived.OwnWalkIn
import Derived.TacticsInMore
import Derived.LoopNIn
import Derived.LoopIn
namespace Go.Proofs.YtfhokapfkclckaaGreat
open Go.RowKit Go.Maps Go.Sort
theorem Fits12.bnd {g:Gm} (h:Fits12 g):BndG g where
 rules:=by have:=h.rules;omega
 nonts:=by have:=h.nonts;omega
 levels:=by have:=h.levels;omega
 prods:=by have:=h.prods;omega
 re r hr:=by
  obtain ⟨j,hj,e⟩:=List.getElem_of_mem hr
  have:=(h.rule j hj).1
  rw [e] at this
  omega
 right p hp:=by
  obtain ⟨j,hj,e⟩:=List.getElem_of_mem hp
  have:=h.prod j hj
  rw [e] at this
  omega
set_option maxRecDepth 20000 in
theorem Fits12.names {g:Gm} (h:Fits12 g):∀ t ∈ g.allN,t.length ≤ 1000000:=fun t ht => by
 unfold Gm.allN at ht
 rw [List.mem_append,List.mem_map] at ht
 rcases ht with ⟨r,hr,rfl⟩ | ht
 · obtain ⟨j,hj,rfl⟩:=List.getElem_of_mem hr
   have:=(h.rule j hj).2
   omega
 · obtain ⟨j,hj,rfl⟩:=List.getElem_of_mem ht
   have:=h.nont j hj
   omega
def SymP (g:Gm) (t:List Int):Prop:=∀ n ∈ t,1 ≤ n ∧ n ≤ (g.all:Int)
structure WkOK15:Prop where
 wakes:∀ u:World,Calls Tryz.prog 8 #[] u fun e w' => e = .returned (.bool true) ∧ Below u.heap.size u w'
def outB (al:Nat) (s:Int):Bool:=decide (s < 1) || decide ((al:Int) < s)
set_option maxRecDepth 20000 in
set_option maxHeartbeats 8000000 in
theorem outC (lb al:Nat) (s:Int) (w:World) (h:w.heap[lb]? = some (.cells #[.int .i64 (al:Int)] 3)) :
 Calls Tryz.prog 32 #[.int .i64 s,ptr0 lb] w fun e w' => e = .returned (.bool (outB al s)) ∧ w' = w:=by
 have c0:=blk_cell (o:=0) h rfl
 clear h
 unfold outB
 by_cases h1:s < 1
 · rw [decide_eq_true h1]
   go_enter Tryz.func32,Tryz.ntmps32
   go_wp2
   go_ret
   exact ⟨rfl,rfl⟩
 · rw [decide_eq_false h1]
   by_cases h2:(al:Int) < s
   · rw [decide_eq_true h2]
     go_enter Tryz.func32,Tryz.ntmps32
     go_wp2
     go_ret
     exact ⟨rfl,rfl⟩
   · rw [decide_eq_false h2]
     go_enter Tryz.func32,Tryz.ntmps32
     go_wp2
     go_ret
     exact ⟨rfl,rfl⟩
abbrev outV (sb:Nat):Value:=.func (.func 32) #[] #[ptr0 sb]
set_option maxRecDepth 20000 in
set_option maxHeartbeats 8000000 in
theorem idxOut (sb:Nat) (P:Int → Bool) (v:Value) (l:List Int) (w:World) (hN:Nums w v l) (hll:l.length ≤ 1000) (hG:∀ k (hk:k < l.length),Calls Tryz.prog 32 #[.int .i64 l[k],ptr0 sb] w fun e w' => e = .returned (.bool (P l[k])) ∧ w' = w) :
 Calls Tryz.prog 51 #[v,outV sb] w fun e w' => ∃ i:Int,e = .returned (.int .i64 i) ∧ decide (0 ≤ i) = l.any P ∧ w' = w:=by
 obtain ⟨va,vc,rfl,-⟩:=id hN
 have hNm:Hid (∀ k (hk:k < l.length),∃ b o,va = some ⟨b,o,none⟩ ∧ w.cell? ⟨b,o + k,none⟩ = some (.int .i64 l[k])):=hid (fun k hk => by
  obtain ⟨b,o,cap,e,_,_,hc⟩:=hN.at (by omega)
  injection e with e1 _ _
  exact ⟨b,o,e1,hc k hk⟩)
 have G:=hid hG
 have hyes:Hid (∀ k (hk:k < l.length),P l[k] = true → l.any P = true):=hid (fun k hk h => List.any_eq_true.2 ⟨_,List.getElem_mem hk,h⟩)
 have hno:Hid ((∀ k (hk:k < l.length),P l[k] = false) → l.any P = false):=hid (fun h => by
  rw [List.any_eq_false]
  intro x hx
  obtain ⟨k,hk,rfl⟩:=List.getElem_of_mem hx
  rw [h k hk]
  decide)
 generalize l.any P = R at *
 obtain ⟨n,hn⟩:∃ n,Hid (l.length = n):=⟨_,hid rfl⟩
 rw [hn.out] at hll ⊢
 clear hN hG
 go_enter Tryz.func51,Tryz.ntmps51
 go_wp2
 go_loopw [8] (fun i wr => ∃ k:Nat,k ≤ n ∧ i = .int .i64 (k:Int) ∧ Hid (∀ j (hj:j < l.length),j < k → P l[j] = false) ∧ wr = w) (fun i _ => n - (intOf i).toNat)
 case atStart => exact ⟨0,Nat.zero_le _,rfl,hid (fun _ _ h => absurd h (Nat.not_lt_zero _)),rfl⟩
 case round =>
  obtain ⟨k,hk,rfl,hI,rfl⟩:=hrel
  by_cases hlt:k < n
  · have hltz:(k:Int) < (n:Int):=by omega
    have hkl:k < l.length:=by rw [hn.out];exact hlt
    obtain ⟨b,o,rfl,c0⟩:=hNm.out k hkl
    have G1:=hid (G.out k hkl)
    have hy:=hid (hyes.out k hkl)
    have hmore:Hid (P l[k] = false → ∀ j (hj:j < l.length),j < k + 1 → P l[j] = false):=hid (fun h j hj h9 => by
     rcases Nat.lt_or_ge j k with h8 | h8
     · exact hI.out j hj h8
     · obtain rfl:j = k:=by omega
       exact h)
    clear hI hyes hno hNm G
    generalize l[k] = s at *
    cases hb:P s with
    | false =>
     have hm9:=hid (hmore.out hb)
     rw [hb] at G1
     clear hmore hy hb
     go_wp2_with (go_at_call 32;refine G1.out.mono ?_;clear G1;rintro e w4 ⟨rfl,hc4⟩;subst w4)
     go_roundw
     case rel => exact ⟨k + 1,by omega,by go_num,hm9,by first | rfl | trivial⟩
     case measure => simp [intOf];omega
    | true =>
     obtain rfl:=hy.out hb
     rw [hb] at G1
     clear hmore hy hb
     go_wp2_with (go_at_call 32;refine G1.out.mono ?_;clear G1;rintro e w4 ⟨rfl,hc4⟩;subst w4)
     go_ret
     exact ⟨_,rfl,decide_eq_true (by omega),rfl⟩
  · have hltz:¬ (k:Int) < (n:Int):=by omega
    obtain rfl:=hno.out (fun j hj => hI.out j hj (by rw [hn.out] at hj;omega))
    go_wp2
    go_ret
    exact ⟨_,rfl,by decide,rfl⟩
set_option maxRecDepth 20000 in
set_option maxHeartbeats 8000000 in
theorem hasOut (sb:Nat) (P:Int → Bool) (v:Value) (l:List Int) (w:World) (hN:Nums w v l) (hll:l.length ≤ 1000) (hG:∀ k (hk:k < l.length),Calls Tryz.prog 32 #[.int .i64 l[k],ptr0 sb] w fun e w' => e = .returned (.bool (P l[k])) ∧ w' = w) :
 Calls Tryz.prog 31 #[v,outV sb] w fun e w' => e = .returned (.bool (l.any P)) ∧ w' = w:=by
 have G:=hid (idxOut sb P v l w hN hll hG)
 generalize l.any P = R at *
 obtain ⟨va,vc,rfl,-⟩:=id hN
 clear hN hG
 generalize l.length = n at *
 go_enter Tryz.func31,Tryz.ntmps31
 go_wp2_with (go_at_call 51;refine G.out.mono ?_;clear G;rintro e w4 ⟨i,rfl,hi,hc4⟩;subst w4)
 go_ret
 exact ⟨by first | (rw [← hi];rfl) | (rw [← hi];simp),rfl⟩
theorem out_any {g:Gm} {t:List Int}:t.any (outB g.all) = false ↔ SymP g t:=by
 rw [List.any_eq_false]
 unfold SymP outB
 constructor
 · intro h n hn
   have:=h n hn
   rw [Bool.or_eq_true,decide_eq_true_iff,decide_eq_true_iff] at this
   omega
 · intro h n hn
   have:=h n hn
   rw [Bool.or_eq_true,decide_eq_true_iff,decide_eq_true_iff]
   omega
theorem collapse2n {R F:World → Nat → Prop} {G:Prop} (h:(∀ V a,F V a → R V a) → G) (pf:∀ V a,F V a → R V a):G:=h pf
set_option maxRecDepth 20000 in
set_option maxHeartbeats 16000000 in
theorem ofYesP (g:Gm) (hg:SndG g) (rv nv lv pv tv:Value) (t:List Int) (w:World) (hV:GmV w rv nv lv pv g) (hb:BndG g) (hnl:∀ t ∈ g.allN,t.length ≤ 1000000) (hT:Nums w tv t) (hl:t.length ≤ 1000) :
 Calls Tryz.prog 14 #[gmA rv nv lv pv g.start,tv] w fun e w' => ∃ v b,e = .returned (.tuple #[v,.bool b]) ∧ (SymP g t → Nums w' v (firL g t) ∧ b = goneB (nulL g) t) ∧ (¬ SymP g t → Nums w' v [] ∧ b = false) ∧ Below w.heap.size w w':=by
 obtain ⟨na,nc,rfl⟩:=hV.nonts.shape
 have hB1:=al' w (.cells #[rv,.slice na g.nonts.length nc,lv,pv,.int .i64 g.start] 27)
 have k1:=heap_new w (.cells #[rv,.slice na g.nonts.length nc,lv,pv,.int .i64 g.start] 27)
 obtain ⟨W,hW⟩:∃ x,w.alloc (.cells #[rv,.slice na g.nonts.length nc,lv,pv,.int .i64 g.start] 27) = x:=⟨_,rfl⟩
 rw [hW] at hB1 k1
 have hk1:=hid (fun u (hu:Below W.heap.size W u) => cells5m (hs_keep k1 hu))
 have hB:=hid hB1
 have G0:=hid (soundP g _ _ _ _ W (hV.keep hB1) hb hnl)
 rw [soundB_yes hg] at G0
 have hal:=all_le hg
 have hr:=hg.rules
 have hn:=hg.nonts
 have ht:=terms_le15 g
 have GT:=hid (fun u (hu:Below W.heap.size W u) => gtermC rv _ lv pv g g.start u (hV.keep (bl_step hB1 hu)) (by omega))
 have GK:=hid (fun u (hu:Below W.heap.size W u) => knowC g hg _ _ _ _ u (hV.keep (bl_step hB1 hu)))
 have hTk:=hid (fun u (hu:Below W.heap.size W u) => hT.keep (bl_step hB1 hu))
 have hall:(g.all:Int) = (g.terms:Int) + (g.nonts.length:Int):=by unfold Gm.all;omega
 have GX:=hid (fun (u:World) (hu:Below W.heap.size W u) lb (h:u.heap[lb]? = some (.cells #[.int .i64 (g.all:Int)] 3)) => hasOut lb (outB g.all) tv t u (hT.keep (bl_step hB1 hu)) hl (fun k _ => outC lb g.all t[k] u h))
 have hsml:Hid (∀ B,KnI g B → ∀ s,(atB B s).length ≤ 1000):=hid (fun B h s => by
  unfold atB
  rw [List.getD_eq_getElem?_getD]
  cases e:B[s.toNat]? with
  | none => exact Nat.zero_le _
  | some l =>
   have h1:=h.lens l (List.mem_of_getElem? e)
   show l.length ≤ 1000
   omega)
 have GO:Hid (SymP g t → ∀ vb bb B u,Below W.heap.size W u → KnV u vb bb (g.all + 1) (nulL g) B → Knw g B → Calls Tryz.prog 34 #[knA vb bb (g.all + 1),tv] u fun e w' => ∃ v,e = .returned (.tuple #[v,.bool (goneB (nulL g) t)]) ∧ Nums w' v (firL g t) ∧ Below u.heap.size u w'):=hid (fun hs vb bb B u hu hK hB => by
  refine (ofTextC vb bb (g.all + 1) (nulL g) B tv t u hK (hT.keep (bl_step hB1 hu)) (fun n hn => by have:=hs n hn;omega) hl (by omega) (hsml.out B hB.inv)).mono ?_
  rintro e w' ⟨v,rfl,hO,hb⟩
  rw [hB.tx hs] at hO
  exact ⟨v,rfl,Nums.of_row hO,hb⟩)
 have hsym:=hid (out_any (g:=g) (t:=t))
 have hf1:Hid (∀ w1,Below W.heap.size W w1 → (w1.alloc (.cells #[.int .i64 ((g.terms:Int) + (g.nonts.length:Int))] 3)).heap[w1.heap.size]? = some (.cells #[.int .i64 ((g.terms:Int) + (g.nonts.length:Int))] 3) ∧ Below W.heap.size W (w1.alloc (.cells #[.int .i64 ((g.terms:Int) + (g.nonts.length:Int))] 3))):=hid (fun w1 h1 => ⟨heap_new w1 _,bl_step h1 (al' w1 _)⟩)
 have hf2:Hid (∀ w0,Below W.heap.size W w0 → ∀ w1,Below (w0.alloc (.cells #[.int .i64 0] 3)).heap.size (w0.alloc (.cells #[.int .i64 0] 3)) w1 → (w1.setCell ⟨w0.heap.size,0,none⟩ (.int .i64 ((g.terms:Int) + (g.nonts.length:Int)))).heap[w0.heap.size]? = some (.cells #[.int .i64 ((g.terms:Int) + (g.nonts.length:Int))] 3) ∧ Below W.heap.size W (w1.setCell ⟨w0.heap.size,0,none⟩ (.int .i64 ((g.terms:Int) + (g.nonts.length:Int))))):=hid (fun w0 h0 w1 h1 => by
  have a0:=bl_step h0 (al' w0 (.cells #[.int .i64 0] 3))
  have hK:Kept (oneBlk w0.heap.size) w1 (w1.setCell ⟨w0.heap.size,0,none⟩ (.int .i64 ((g.terms:Int) + (g.nonts.length:Int)))):=set_kept
  exact ⟨heap_setCell (hs_keep (heap_new w0 _) h1),(bl_step a0 h1).trans (hK.below (fun k e => by rw [show k = w0.heap.size from e];exact h0.size) (bl_step a0 h1).size)⟩)
 have hsum:IntKind.i64.wrap ((g.terms:Int) + (g.nonts.length:Int)) = (g.all:Int):=by
  rw [IntKind.wrap_i64]
  omega
 clear hV hB1 k1 hb hnl hg hT
 generalize SymP g t = SY at *
 generalize t.any (outB g.all) = OT at *
 generalize goneB (nulL g) t = GB at *
 generalize firL g t = FL at *
 obtain ⟨al,hal9⟩:∃ n,Hid (g.all = n):=⟨_,hid rfl⟩
 obtain ⟨tm,htm⟩:∃ n,Hid (g.terms = n):=⟨_,hid rfl⟩
 obtain ⟨nn,hnn⟩:∃ n,Hid (g.nonts.length = n):=⟨_,hid rfl⟩
 obtain ⟨st,hst⟩:∃ n,Hid (g.start = n):=⟨_,hid rfl⟩
 rw [hal9.out] at hal hall GX GK GO hsum
 rw [htm.out] at GT ht hall hsum hf1 hf2
 rw [hnn.out] at G0 GT GK hn hW hk1 hall hsum hf1 hf2 ⊢
 rw [hst.out] at G0 GT GK hW hk1 ⊢
 obtain ⟨x0,x1,x2,x3,x4⟩:=hk1.out W (Below.refl _ _)
 go_enter Tryz.func14,Tryz.ntmps14
 go_wp2_with (go_at_call 23;refine G0.out.mono ?_;clear G0;rintro e w1 ⟨rfl,hc1⟩;have h1:=hid hc1;clear hc1 x0 x1 x2 x3 x4;obtain ⟨x0,x1,x2,x3,x4⟩:=hk1.out w1 h1.out)
 apply collapse2n (F:=fun V lb => V.heap[lb]? = some (.cells #[.int .i64 ((tm:Int) + (nn:Int))] 3) ∧ Below W.heap.size W V)
 case h =>
  intro rest
  obtain ⟨b0,b1,b2,b3,b4⟩:=hk1.out _ (bl_step h1.out (al' w1 (.cells #[.int .i64 0] 3)))
  go_region_law ((first
   | (refine step_call15 (by rfl) 30 #[gmA rv (.slice na nn nc) lv pv st] (by go_simp) (GT.out w1.drew h1.out.drew) ?_;rintro e w2 ⟨rfl,hc1⟩;refine ⟨_,rfl,?_⟩;have hc2:=h1.out.drew.trans (hc1.mono h1.out.size);have hq1:=hid hc2;obtain ⟨z0,z1,z2,z3,z4⟩:=hk1.out w2 hc2;have y1:=keep_cell (al' w2 (.cells #[.int .i64 0] 3)) z1;clear hc1 hc2)
   | (refine step_call15 (by rfl) 30 #[gmA rv (.slice na nn nc) lv pv st] (by go_simp) (GT.out (w1.alloc (.cells #[.int .i64 0] 3)).drew (bl_step h1.out (al' w1 (.cells #[.int .i64 0] 3)).drew)) ?_;rintro e w2 ⟨rfl,hc1⟩;refine ⟨_,rfl,?_⟩;have hc2:=(Below.refl (w1.alloc (.cells #[.int .i64 0] 3)).heap.size (w1.alloc (.cells #[.int .i64 0] 3))).drew.trans hc1;have hq2:=hid hc2;have hb9:=hs_keep (heap_new w1 (.cells #[.int .i64 0] 3)) hc2;have m0:=blk_cell (o:=0) hb9 rfl;have m1:=blk_frozen hb9 0;obtain ⟨z0,z1,z2,z3,z4⟩:=hk1.out w2 (bl_step (bl_step h1.out (al' w1 (.cells #[.int .i64 0] 3))) hc2);clear hc1 hc2 hb9)))
  all_goals
   first
    | (have hf:=hf1.out w2 hq1.out
       generalize w2.alloc (.cells #[.int .i64 ((tm:Int) + (nn:Int))] 3) = V at hf ⊢
       generalize w2.heap.size = lb at hf ⊢
       exact rest V lb hf)
    | exact rest _ w1.heap.size (hf2.out w1 h1.out w2 hq2.out)
 case pf =>
  rintro V lb ⟨hlb,hBV⟩
  rw [← hall] at hlb
  have GC:=hid (GX.out V hBV lb hlb)
  have hBV:=hid hBV
  obtain ⟨y0,y1,y2,y3,y4⟩:=hk1.out V hBV.out
  obtain ⟨ta,tc,rfl,-⟩:=id (hTk.out V hBV.out)
  cases OT with
  | true =>
   have hno:Hid (¬ SY):=hid (fun h => by have:=hsym.out.2 h;cases this)
   clear GO GK hsym
   go_wp2_with (go_at_call 31;refine GC.out.mono ?_;clear GC;rintro e w5 ⟨rfl,hc5⟩;subst w5)
   refine bodyPost_ret (v:=.tuple #[.slice none 0 0,.bool false]) (by simp [results,Tryz.results14,go_sem]) rfl ?_
   exact ⟨_,false,rfl,fun h => absurd h hno.out,fun _ => ⟨Nums.nil _,rfl⟩,bl_step hB.out hBV.out⟩
  | false =>
   have hyes:=hsym.out.1 rfl
   have GO:=hid (GO.out hyes)
   have hyes:=hid hyes
   clear hsym
   go_wp2_with (first
    | (go_at_call 31;refine GC.out.mono ?_;clear GC;rintro e w5 ⟨rfl,hc5⟩;subst w5)
    | (go_at_call 33;refine (GK.out V hBV.out).mono ?_;clear GK;rintro e w6 ⟨vb,bb,B,rfl,hK6,hW6,-,-,hc6⟩;have hK6:=hid hK6;have hW6:=hid hW6;have h6:=hid (bl_step hBV.out hc6);clear hc6)
    | (go_at_call 34;refine (GO.out vb bb B w6 h6.out hK6.out hW6.out).mono ?_;clear GO;rintro e w7 ⟨v7,rfl,hN7,hc7⟩;have hN7:=hid hN7;have h7:=hid (bl_step h6.out hc7);clear hc7))
   refine bodyPost_ret (v:=.tuple #[v7,.bool GB]) (by simp [results,Tryz.results14,go_sem]) rfl ?_
   exact ⟨_,GB,rfl,fun _ => ⟨hN7.out,rfl⟩,fun h => absurd hyes.out h,bl_step hB.out h7.out⟩
end Go.Proofs.YtfhokapfkclckaaGreat
namespace Go.Proofs.YtfhokapfkclckaaGreat
open Go.RowKit Go.Shelf Go.Maps Go.Sort
attribute [local go_sem] Oper.semAt_some
abbrev SymA (N:Nat):={ p:Int × Int // 0 ≤ p.2 ∧ p.2.toNat < N }
def bwdA (N:Nat) (t:List Int) (h0:0 < N) (h:∀ n ∈ t,0 ≤ n ∧ n.toNat < N) (j:Nat):SymA N:=
 ⟨((t.length:Int) - 1 - (j:Int),t.getD (t.length - 1 - j) 0),by
   show 0 ≤ t.getD (t.length - 1 - j) 0 ∧ (t.getD (t.length - 1 - j) 0).toNat < N
   rw [List.getD_eq_getElem?_getD]
   cases e:t[t.length - 1 - j]? with
   | none => exact ⟨Int.le_refl _,h0⟩
   | some x => exact h x (List.mem_of_getElem? e)⟩
def uptoA {α:Type} (f:Nat → α) (k:Nat):List α:=(List.range k).map f
theorem uptoA_succ {α:Type} (f:Nat → α) (k:Nat):uptoA f (k + 1) = uptoA f k ++ [f k]:=by simp [uptoA,List.range_succ]
theorem uptoA_length {α:Type} (f:Nat → α) (k:Nat):(uptoA f k).length = k:=by simp [uptoA]
theorem uptoA_all (N:Nat) (t:List Int) (h0:0 < N) (h:∀ n ∈ t,0 ≤ n ∧ n.toNat < N):(uptoA (bwdA N t h0 h) t.length).map (fun x => x.1.2) = t.reverse:=by
 unfold uptoA
 rw [List.map_map]
 apply List.ext_getElem
 · simp
 · intro i h1 h2
   have h3:i < t.length:=by simpa using h1
   have h4:t.length - 1 - i < t.length:=by omega
   simp only [List.getElem_map,List.getElem_range,Function.comp,List.getElem_reverse]
   show t.getD (t.length - 1 - i) 0 = _
   rw [List.getD_eq_getElem?_getD,List.getElem?_eq_getElem h4,Option.getD_some]
abbrev symV {N:Nat} (x:SymA N):Array Value:=#[.int .i64 x.1.1,.int .i64 x.1.2]
set_option maxRecDepth 100000 in
set_option maxHeartbeats 4000000 in
theorem bwd1_in (F:Fence) (n:Nat) (hF:F.fn 79) (hro:F.round = none) (hn:1 ≤ n) (N l Bs:Nat) (tv:Value) (t:List Int) (h0:0 < N) (ht:∀ n ∈ t,0 ≤ n ∧ n.toNat < N) (hl:t.length ≤ 1000) (Kp:World → World → Prop) (hKr:∀ A,Kp A A) (hKt:∀ {A B C:World},Kp A B → Kp B C → Kp A C)
 (J Jx:List (SymA N) → World → Prop)
 (hY:∀ pre x W,J pre W → pre.length < t.length → YieldAt F (n - 1) Tryz.prog l (symV x) W fun e W' =>
  (e = .returned (.bool true) ∧ J (pre ++ [x]) W' ∧ Kp W W') ∨ (e = .returned (.bool false) ∧ Jx (pre ++ [x]) W'))
 (W:World) (hB:∀ u,Kp W u → u.cell? ⟨Bs,0,none⟩ = some tv) (hT:∀ u,Kp W u → Nums u tv t) (hJ0:J [] W) :
 CallsIn F n Tryz.prog 79 #[.func (.yield l) #[] #[],.pointer (some ⟨Bs,0,none⟩)] W fun e W' => (∃ v,e = .returned v) ∧
  ((∃ ys,ys = uptoA (bwdA N t h0 ht) t.length ∧ J ys W') ∨ (∃ pre,(∃ k,k ≤ t.length ∧ pre = uptoA (bwdA N t h0 ht) k) ∧ Jx pre W')):=by
 obtain ⟨ta,tc,rfl,-⟩:=id (hT W (hKr W))
 have hx0:=hB W (hKr W)
 have hBc:=hid hB
 have hTc:=hid hT
 clear hB hT
 refine callsIn_of_wp Tryz.func79 rfl hF ?_ hro
 simp only [Tryz.ntmps79,List.size_toArray,List.length_cons,List.length_nil,Nat.reduceAdd,Nat.reduceSub,Array.replicate_succ,Array.replicate_zero,List.push_toArray,List.append_toArray,List.nil_append,List.cons_append]
 gi_wp2
 gi_loopw [3] (fun i wr => ∃ k:Nat,k ≤ t.length ∧ i = .int .i64 ((t.length:Int) - 1 - (k:Int)) ∧ J (uptoA (bwdA N t h0 ht) k) wr ∧ Hid (Kp W wr))
  (fun i _ => (intOf i + 1).toNat)
 case atStart => exact ⟨0,Nat.zero_le _,by simp,hJ0,hid (hKr W)⟩
 case round =>
  obtain ⟨k,hk,rfl,hJs,hnx⟩:=hrel
  by_cases hlt:k < t.length
  · obtain ⟨fn,tmps,assign,body,hy,hR⟩:=hY _ (bwdA N t h0 ht k) wr hJs (by rw [uptoA_length];exact hlt)
    obtain ⟨b,o,cap,e9,_,_,hc⟩:=(hTc.out wr hnx.out).at (by omega)
    injection e9 with e1 e2 e3
    subst e1
    subst e3
    clear e2
    have hc1:=hc (t.length - 1 - k) (by omega)
    have hb1:=hBc.out wr hnx.out
    have hgd:t.getD (t.length - 1 - k) 0 = t[t.length - 1 - k]'(by omega):=by rw [List.getD_eq_getElem?_getD,List.getElem?_eq_getElem (by omega),Option.getD_some]
    have hy2:(Instr.yield l #[.int .i64 ((t.length:Int) - 1 - (k:Int)),.int .i64 t[t.length - 1 - k]]).run Tryz.prog wr = .ok (.round l fn tmps assign body) wr:=by
     rw [← hgd]
     exact hy
    clear hy hc hgd
    generalize t[t.length - 1 - k] = s at *
    obtain ⟨j,hj⟩:∃ j:Nat,t.length - 1 - k = j:=⟨_,rfl⟩
    rw [hj] at hc1
    have hjz:(t.length:Int) - 1 - (k:Int) = (j:Int):=by omega
    rw [hjz] at hy2 ⊢
    have hjl:(j:Int) < (t.length:Int):=by omega
    have hj0:(0:Int) ≤ (j:Int):=by omega
    have hnext:Hid ((t.length:Int) - 1 - ((k + 1:Nat):Int) = (j:Int) - 1):=hid (by omega)
    clear hBc hTc
    gi_wp2
    refine hR.mono ?_
    rintro e W3 (⟨rfl,hJ3,hk3⟩ | ⟨rfl,hJx3⟩)
    · gi_wp2
      go_roundw
      case rel => exact ⟨k + 1,by omega,by rw [hnext.out],by rw [uptoA_succ];exact hJ3,hid (hKt hnx.out hk3)⟩
      case measure => simp [intOf]
    · gi_wp2
      refine bodyPost_ret (results_none rfl _ _ _) rfl ?_
      exact ⟨⟨_,rfl⟩,.inr ⟨_,⟨k + 1,by omega,(uptoA_succ _ _).symm⟩,hJx3⟩⟩
  · obtain rfl:k = t.length:=by omega
    have hm1:(t.length:Int) - 1 - (t.length:Int) = -1:=by omega
    rw [hm1]
    gi_wp2
    go_end0
    exact ⟨⟨_,rfl⟩,.inl ⟨_,rfl,hJs⟩⟩
set_option maxRecDepth 20000 in
theorem backward_in (F:Fence) (n:Nat) (hF:F.fn 59) (hro:F.round = none) (a:Option Addr) (len cap:Nat) (w:World) :
 CallsIn F n Tryz.prog 59 #[.slice a len cap] w fun e w' => e = .returned (.func (.func 79) #[] #[.pointer (some ⟨w.heap.size,0,none⟩)]) ∧ w' = w.alloc (.cells #[.slice a len cap] 30):=by
 refine callsIn_of_wp Tryz.func59 rfl hF ?_ hro
 simp only [Tryz.ntmps59,List.size_toArray,List.length_cons,List.length_nil,Nat.reduceAdd,Nat.reduceSub,Array.replicate_succ,Array.replicate_zero,List.push_toArray,List.append_toArray,List.nil_append,List.cons_append]
 gi_wp2
 go_ret
 exact ⟨rfl,rfl⟩
set_option maxRecDepth 20000 in
theorem bwd_stops (F:Fence) (n:Nat) (hF:F.fn 79) (hro:F.round = none) (hn:1 ≤ n) (N Bs:Nat) (tv:Value) (t:List Int) (h0:0 < N) (ht:∀ n ∈ t,0 ≤ n ∧ n.toNat < N) (hl:t.length ≤ 1000) (Kp:World → World → Prop) (hKr:∀ A,Kp A A) (hKt:∀ {A B C:World},Kp A B → Kp B C → Kp A C)
 (w:World) (hB:∀ u,Below w.heap.size w u → ∀ u',Kp u u' → u'.cell? ⟨Bs,0,none⟩ = some tv) (hT:∀ u,Below w.heap.size w u → ∀ u',Kp u u' → Nums u' tv t) :
 SeqStopsK F n Tryz.prog 79 #[.pointer (some ⟨Bs,0,none⟩)] (fun x:SymA N => symV x) Kp (fun ys => ys = uptoA (bwdA N t h0 ht) t.length)
  (fun pre => ∃ k,k ≤ t.length ∧ pre = uptoA (bwdA N t h0 ht) k) t.length w:=fun l J Jx W hW _ _ hY hJ0 =>
 bwd1_in F n hF hro hn N l Bs tv t h0 ht hl Kp hKr hKt J Jx hY W (hB W hW) (hT W hW) hJ0
end Go.Proofs.YtfhokapfkclckaaGreat
namespace Go.Proofs.YtfhokapfkclckaaGreat
open Go.RowKit Go.Maps Go.Sort
structure SpS where
 h:List (List Int)
 nx:List Int
def spS (null:List Int) (B:List (List Int)) (s:SpS) (y:Int):SpS:=⟨jnB s.h y s.nx,if null.contains y = true then ofL (s.nx ++ atB B y) else atB B y⟩
theorem spS_rev (null:List Int) (B H:List (List Int)) (E:List Int):∀ t:List Int,t.reverse.foldl (spS null B) ⟨H,E⟩ = ⟨spr null B E t H,nxt null B E t⟩
 | [] => rfl
 | y :: r => by
  rw [List.reverse_cons,List.foldl_append,spS_rev null B H E r]
  rfl
theorem up_small {l:List Int} (h:Up l) (hr:∀ x ∈ l,0 ≤ x ∧ x ≤ 100):l.length ≤ 101:=
 nodup_le 101 l (-1) (h.imp (fun h => by omega)) (fun n hn => by have:=hr n hn;omega)
structure SpI (N:Nat) (s:SpS):Prop where
 len:s.h.length = N
 up:UpB s.h
 rng:∀ l ∈ s.h,∀ x ∈ l,0 ≤ x ∧ x ≤ 100
 nup:Up s.nx
 nrg:∀ x ∈ s.nx,0 ≤ x ∧ x ≤ 100
structure BegI (B:List (List Int)):Prop where
 up:UpB B
 rng:∀ l ∈ B,∀ x ∈ l,0 ≤ x ∧ x ≤ 100
theorem rng_at {B:List (List Int)} (h:∀ l ∈ B,∀ x ∈ l,0 ≤ x ∧ x ≤ 100) (y:Int):∀ x ∈ atB B y,0 ≤ x ∧ x ≤ 100:=fun x hx => by
 unfold atB at hx
 rw [List.getD_eq_getElem?_getD] at hx
 cases e:B[y.toNat]? with
 | none => rw [e] at hx;exact absurd hx List.not_mem_nil
 | some l => rw [e] at hx;exact h l (List.mem_of_getElem? e) x hx
section
variable {N:Nat} {null:List Int} {B H0:List (List Int)} {s:SpS} {y:Int}
theorem SpI.small (h:SpI N s) (y:Int):(atB s.h y).length ≤ 101:=up_small (h.up.at y) (rng_at h.rng y)
theorem BegI.small (h:BegI B) (y:Int):(atB B y).length ≤ 101:=up_small (h.up.at y) (rng_at h.rng y)
theorem SpI.nsmall (h:SpI N s):s.nx.length ≤ 101:=up_small h.nup h.nrg
theorem SpI.step (h:SpI N s) (hB:BegI B):SpI N (spS null B s y):=by
 refine ⟨by show (jnB _ _ _).length = N;rw [jnB_len];exact h.len,h.up.jn _ _,fun l hl x hx => ?_,?_,fun x hx => ?_⟩
 · rcases List.mem_or_eq_of_mem_set hl with hl | rfl
   · exact h.rng l hl x hx
   · rw [ofL_mem,List.mem_append] at hx
     rcases hx with hx | hx
     · exact rng_at h.rng y x hx
     · exact h.nrg x hx
 · show Up (if null.contains y = true then ofL (s.nx ++ atB B y) else atB B y)
   split
   · exact ofL_up _
   · exact hB.up.at y
 · have hx:x ∈ (if null.contains y = true then ofL (s.nx ++ atB B y) else atB B y):=hx
   split at hx
   · rw [ofL_mem,List.mem_append] at hx
     rcases hx with hx | hx
     · exact h.nrg x hx
     · exact rng_at hB.rng y x hx
   · exact rng_at hB.rng y x hx
theorem spS_le (h:SpI N s) (hy:y.toNat < N) (h0:totB H0 ≤ totB s.h):totB H0 ≤ totB (spS null B s y).h:=
 Nat.le_trans h0 (jnB_tot h.up (by rw [h.len];exact hy) _)
theorem spS_more (h:SpI N s) (hy:y.toNat < N) (h0:totB H0 ≤ totB s.h):(decide ((atB s.h y).length < (ofL (atB s.h y ++ s.nx)).length) || decide (totB H0 < totB s.h)) = decide (totB H0 < totB (spS null B s y).h):=by
 have h1:=jnB_tot (m:=s.nx) h.up (s:=y) (by rw [h.len];exact hy)
 rw [jnB_more (by rw [h.len];exact hy)]
 show (decide (totB s.h < totB (jnB s.h y s.nx)) || decide (totB H0 < totB s.h)) = decide (totB H0 < totB (jnB s.h y s.nx))
 rw [Bool.eq_iff_iff,Bool.or_eq_true,decide_eq_true_iff,decide_eq_true_iff,decide_eq_true_iff]
 omega
end
theorem Nums.kept {w u:World} {v:Value} {l:List Int} (h:Nums w v l) {hb:Nat} {H:List (List Int)} (hR:RowsL w hb H) (hK:Kept (oneBlk hb) w u):Nums u v l:=by
 obtain ⟨a,cap,e,h1,h2,h3⟩:=h
 obtain ⟨vs,hv,hx⟩:=hR
 refine ⟨a,cap,e,h1,h2,fun i hi => ?_⟩
 obtain ⟨b,o,ea,hlt,hc⟩:=h3 i hi
 refine ⟨b,o,ea,Nat.lt_of_lt_of_le hlt hK.size,?_⟩
 have hne:b ≠ hb:=fun e => by
  subst e
  unfold World.cell? at hc
  rw [hv] at hc
  simp only at hc
  have hc':vs.toArray[o + i]? = some (.int .i64 l[i]):=by simpa using hc
  rw [List.getElem?_toArray] at hc'
  obtain ⟨a,n,c,e9⟩:=hx.slices _ (List.mem_of_getElem? hc')
  cases e9
 have:=hK.block b hlt hne
 unfold World.cell? at hc ⊢
 rw [this]
 exact hc
theorem KnV.kept {w u:World} {vb bb N:Nat} {null:List Int} {B:List (List Int)} (h:KnV w vb bb N null B) {hb:Nat} {H:List (List Int)} (hR:RowsL w hb H) (hK:Kept (oneBlk hb) w u) (h1:hb ≠ vb) (h2:hb ≠ bb):KnV u vb bb N null B:=by
 obtain ⟨vs,hv,hx⟩:=h.beg
 exact ⟨hK.blk h.van (fun e => h1 e.symm),⟨vs,hK.blk hv (fun e => h2 e.symm),hx.mono fun _ _ h9 => h9.kept hR hK⟩,h.len⟩
theorem Nums.off1 {w:World} {mb:Nat} {v0:Value} {T:TypeId} (hb:w.heap[mb]? = some (.cells #[v0] T)) (h0:∀ n,v0 ≠ .int .i64 n) (x:Value) {v:Value} {l:List Int} (h:Nums w v l):Nums (w.setCell ⟨mb,0,none⟩ x) v l:=by
 obtain ⟨a,cap,e,h1,h2,h3⟩:=h
 refine ⟨a,cap,e,h1,h2,fun i hi => ?_⟩
 obtain ⟨b,o,ea,hlt,hc⟩:=h3 i hi
 refine ⟨b,o,ea,by simpa using hlt,?_⟩
 have hne:b ≠ mb:=fun e => by
  subst e
  unfold World.cell? at hc
  rw [hb] at hc
  simp only at hc
  have hc':(#[v0]:Array Value)[o + i]? = some (.int .i64 l[i]):=by simpa using hc
  have hlt2:o + i < (#[v0]:Array Value).size:=(Array.getElem?_eq_some_iff.1 hc').1
  have hz:o + i = 0:=by simp at hlt2;omega
  rw [hz] at hc'
  simp at hc'
  exact h0 _ hc'
 unfold World.cell? at hc ⊢
 rw [Below.heap_setCell w ⟨mb,0,none⟩ x b (fun e => hne e)]
 exact hc
theorem RowsL.off1 {w:World} {hb mb:Nat} {H:List (List Int)} {v0:Value} {T:TypeId} (h:RowsL w hb H) (hm:w.heap[mb]? = some (.cells #[v0] T)) (h0:∀ n,v0 ≠ .int .i64 n) (hne:hb ≠ mb) (x:Value):RowsL (w.setCell ⟨mb,0,none⟩ x) hb H:=by
 obtain ⟨vs,h1,h2⟩:=h
 exact ⟨vs,(set_kept (rb:=mb)).blk h1 hne,h2.mono fun _ _ h9 => h9.off1 hm h0 x⟩
def spF (hb mb nb:Nat):Nat → Prop:=fun k => k = hb ∨ k = mb ∨ k = nb
structure SpW (w5:World) (hb mb nb N:Nat) (H0:List (List Int)) (s:SpS) (W:World):Prop where
 inv:SpI N s
 le:totB H0 ≤ totB s.h
 more:W.heap[mb]? = some (.cells #[.bool (decide (totB H0 < totB s.h))] 4)
 next:∃ nv,W.heap[nb]? = some (.cells #[nv] 30) ∧ Nums W nv s.nx
 row:RowsL W hb s.h
 low:Kept (spF hb mb nb) w5 W
theorem SpW.turn {w5:World} {hb mb nb N:Nat} {H0:List (List Int)} {s:SpS} {W W':World} {row:Option Nat} (h:SpW w5 hb mb nb N H0 s W) (hg:W.grownBy W' row) (hr:∀ r,row = some r → w5.heap.size ≤ r ∧ ∃ o:Obj,W.heap[r]? = some o ∧ o.isCells = false):SpW w5 hb mb nb N H0 s W':=by
 have hr2:∀ r,row = some r → ∃ o:Obj,W.heap[r]? = some o ∧ o.isCells = false:=fun r e => (hr r e).2
 have hblk:∀ {b:Nat} {cs:Array Value} {T:TypeId} {fr:Nat × Nat},W.heap[b]? = some (.cells cs T fr) → W'.heap[b]? = some (.cells cs T fr):=fun {b cs T fr} hb => by
  rw [hg.block b (blk_lt hb) (fun e => by
   obtain ⟨o,ho,hc⟩:=hr2 b e.symm
   rw [hb] at ho
   injection ho with ho
   subst ho
   cases hc)]
  exact hb
 have hnum:∀ v l,Nums W v l → Nums W' v l:=fun v l hv => by
  obtain ⟨a,cap,e,h1,h2,h3⟩:=hv
  exact ⟨a,cap,e,h1,h2,fun i hi => by
   obtain ⟨b,o,ea,hlt,hc⟩:=h3 i hi
   exact ⟨b,o,ea,Nat.lt_of_lt_of_le hlt hg.size,cell_kept hc hg hr2⟩⟩
 obtain ⟨nv,n1,n2⟩:=h.next
 obtain ⟨vs,r1,r2⟩:=h.row
 exact ⟨h.inv,h.le,hblk h.more,⟨nv,hblk n1,hnum _ _ n2⟩,⟨vs,hblk r1,r2.mono hnum⟩,⟨hg.os.trans h.low.os,hg.tape.trans h.low.tape,hg.output.trans h.low.output,Nat.le_trans h.low.size hg.size,fun k hk hn => (hg.block k (Nat.lt_of_lt_of_le hk h.low.size) (fun e => by have:=(hr k e.symm).1;omega)).trans (h.low.block k hk hn)⟩⟩
end Go.Proofs.YtfhokapfkclckaaGreat
