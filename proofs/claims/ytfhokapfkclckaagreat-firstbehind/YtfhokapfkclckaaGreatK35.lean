/- Package check: slices.Index of marks, marked. The reference: Reached. What package check answers: what is reached. Package check: Reached, Ends; all that is asked of it. -/
import Derived.Test.YtfhokapfkclckaaGreatK34
import Derived.Test.YtfhokapfkclckaaGreatK3
import Derived.Test.YtfhokapfkclckaaGreatK25
import Derived.Test.YtfhokapfkclckaaGreatK16
import Derived.Test.YtfhokapfkclckaaGreatK4
import Derived.Test.YtfhokapfkclckaaGreatK31
import Derived.Test.YtfhokapfkclckaaGreatK17
namespace Go.Proofs.YtfhokapfkclckaaGreat
open Go.RowKit Go.Maps Go.Sort
set_option maxRecDepth 20000 in
set_option maxHeartbeats 16000000 in
theorem markedC (g:Gm) (rv nv lv pv:Value) (st:Int) (v:Value) (L:List Bool) (w:World) (hV:GmV w rv nv lv pv g) (hl:g.rules.length ≤ 1000) (h:MkV w v L) (hL:L.length ≤ 1000) :
 Calls Tryz.prog 75 #[gmA rv nv lv pv st,v] w fun e w' => ∃ v',e = .returned v' ∧ Own w' w.heap.size v' (mksL g.terms L L.length) ∧ Below w.heap.size w w':=by
 obtain ⟨mb,rfl,hb⟩:=h
 have hB1:=al' w (.cells #[rv,nv,lv,pv,.int .i64 st] 27)
 have k1:=heap_new w (.cells #[rv,nv,lv,pv,.int .i64 st] 27)
 obtain ⟨W,hW⟩:∃ x,w.alloc (.cells #[rv,nv,lv,pv,.int .i64 st] 27) = x:=⟨_,rfl⟩
 rw [hW] at hB1 k1
 have hB:=hid hB1
 have hk1:=hid (fun u (hu:Below W.heap.size W u) => cells5m (hs_keep k1 hu))
 have hc:Hid (∀ u,Below W.heap.size W u → ∀ k (hk:k < L.length),u.cell? ⟨mb,k,none⟩ = some (.bool L[k])):=hid (fun u hu k hk => blk_cell (hs_keep hb (bl_step hB1 hu)) (by simp [hk]))
 have G0:=hid (fun u (hu:Below W.heap.size W u) => firstC rv nv lv pv g st u (hV.keep (bl_step hB1 hu)) hl)
 have ht:=terms_le g
 have hsz:w.heap.size ≤ W.heap.size:=hB1.size
 generalize g.terms = tm at *
 have hs1:Hid (∀ k (hk:k < L.length),L[k] = true → mksL tm L (k + 1) = mksL tm L k ++ [(tm:Int) + 1 + (k:Int)]):=hid (fun k hk h => by
  show mksL tm L k ++ _ = _
  rw [List.getD_eq_getElem?_getD,List.getElem?_eq_getElem hk,h]
  rfl)
 have hs2:Hid (∀ k (hk:k < L.length),L[k] = false → mksL tm L (k + 1) = mksL tm L k):=hid (fun k hk h => by
  show mksL tm L k ++ _ = _
  rw [List.getD_eq_getElem?_getD,List.getElem?_eq_getElem hk,h]
  exact List.append_nil _)
 have hlen:=hid (fun k => mksL_len tm L k)
 have hst0:Hid (Own W W.heap.size (.slice none 0 0) (mksL tm L 0)):=hid (World.ownsRow_nil _ _ _ _)
 generalize mksL tm L = F at *
 obtain ⟨n,hn⟩:∃ n,Hid (L.length = n):=⟨_,hid rfl⟩
 rw [hn.out] at hL ⊢
 clear hb hV hB1 k1
 go_enter Tryz.func75,Tryz.ntmps75
 go_wp2
 clear hW
 go_loopw [5,10] (fun v i wr => ∃ k:Nat,k ≤ n ∧ i = .int .i64 (k:Int) ∧ Hid (Own wr W.heap.size v (F k)) ∧ Hid (Below W.heap.size W wr)) (fun _ i _ => n - (intOf i).toNat)
 case atStart => exact ⟨0,Nat.zero_le _,rfl,hst0,hid (Below.refl _ _)⟩
 case round =>
  obtain ⟨k,hk,rfl,hO,hbl⟩:=hrel
  by_cases hlt:k < n
  · have hltz:(k:Int) < (n:Int):=by omega
    have hkl:k < L.length:=by rw [hn.out];exact hlt
    have c0:=hc.out wr hbl.out k hkl
    obtain ⟨y0,y1,y2,y3,y4⟩:=hk1.out wr hbl.out
    have e1:=hs1.out k hkl
    have e2:=hs2.out k hkl
    have hlF:=hlen.out k
    generalize L[k] = b at *
    cases b with
    | false =>
     have hO9:=hid hO.out
     rw [← e2 rfl] at hO9
     clear e1 e2 hO y0 y1 y2 y3 y4
     go_wp2
     go_roundw
     case rel => exact ⟨k + 1,by omega,by go_num,hO9,hbl⟩
     case measure => simp [intOf];omega
    | true =>
     have e9:=hid (e1 rfl)
     have G:=hid (G0.out wr hbl.out)
     clear e1 e2
     go_wp2_with (first
      | (go_at_call 90;refine G.out.mono ?_;clear G;rintro e w3 ⟨rfl,hc3⟩
         have hal:=al' w3 (.cells #[.int .i64 ((tm:Int) + 1 + (k:Int))] 3)
         have hOa:=hid (own_below (own_below hO.out hc3) hal)
         have hDa:=hid (Nums.of_row (Own.lit1 w3 ((tm:Int) + 1 + (k:Int))))
         have hBa:=hid (bl_step (bl_step hbl.out hc3) hal)
         clear hal hc3)
      | (at_builtin;refine wp_app _ rfl _ _ rfl W.heap.size (F k) [(tm:Int) + 1 + (k:Int)] _ _ rfl rfl hOa.out hDa.out (by simp;omega) hBa.out.size ?_;intro v4 w4 hO4 hb4;have hO9:=hid hO4;have hb9:=hid (hBa.out.trans hb4);clear hO4 hb4))
     go_roundw
     case rel => exact ⟨k + 1,by omega,by go_num,hid (by rw [e9.out];exact hO9.out),hb9⟩
     case measure => simp [intOf];omega
  · have hltz:¬ (k:Int) < (n:Int):=by omega
    obtain rfl:k = n:=by omega
    go_wp2
    go_ret
    exact ⟨_,rfl,own_base hO.out hsz,bl_step hB.out hbl.out⟩
theorem foldl_take {α:Type} (f:List Int → α → List Int) (l:List α) (o:List Int) {k:Nat} (hk:k < l.length):(l.take (k + 1)).foldl f o = f ((l.take k).foldl f o) l[k]:=by
 rw [List.take_add_one,List.getElem?_eq_getElem hk,Option.toList_some,List.foldl_append]
 rfl
def rcQ (g:Gm) (r i:Nat):List Int:=(g.prods.take i).foldl (rcP g.terms) (rcN g r)
def rcT (g:Gm) (r i k:Nat):List Int:=((g.prods.getD i ⟨0,[],0⟩).right.take k).foldl (rcS g.terms (g.prods.getD i ⟨0,[],0⟩).left) (rcQ g r i)
theorem rcQ_good (g:Gm) (r i:Nat):RcI g (rcQ g r i):=by
 refine fold_keep (P:=RcI g) (g.prods.take i) _ (fun o p hp ho => ?_) (rcN_good g r)
 refine fold_keep (P:=RcI g) p.right o (fun o n hn ho => ?_) ho
 exact ho.sym (List.mem_of_mem_take hp) hn
theorem rcT_good (g:Gm) (r:Nat) {i:Nat} (hi:i < g.prods.length) (k:Nat):RcI g (rcT g r i k):=by
 unfold rcT
 rw [List.getD_eq_getElem?_getD,List.getElem?_eq_getElem hi]
 refine fold_keep (P:=RcI g) _ _ (fun o n hn ho => ?_) (rcQ_good g r i)
 exact ho.sym (List.getElem_mem hi) (List.mem_of_mem_take hn)
theorem RcI.len {g:Gm} (hg:SndG g) {l:List Int} (h:RcI g l):l.length ≤ 16:=by
 have h1:=nodup_le g.nonts.length l (g.terms:Int) h.2 (fun n hn => by
  have:=(h.1 n hn).range hg
  unfold Gm.all at this
  omega)
 have:=hg.nonts
 omega
theorem rcS_eq (tm:Nat) (l:Int) (out:List Int) (n:Int):rcS tm l out n = if (decide ((tm:Int) < n) && (out.contains l && !out.contains n)) = true then out ++ [n] else out:=by
 unfold rcS
 by_cases h1:(tm:Int) < n <;> by_cases h2:l ∈ out <;> by_cases h3:n ∈ out <;> simp [h1,h2,h3]
set_option maxRecDepth 20000 in
set_option maxHeartbeats 16000000 in
theorem refReached (g:Gm) (rv nv lv pv:Value) (w:World) (hV:GmV w rv nv lv pv g) (hb:BndG g) (hg:SndG g) :
 Calls Tryz.prog 38 #[gmA rv nv lv pv g.start] w fun e w' => ∃ v,e = .returned v ∧ (∃ B,Own w' B v (ofL (rcN g (g.nonts.length + 1)))) ∧ Below w.heap.size w w':=by
 obtain ⟨ra,rc,rfl⟩:=hV.rules.shape
 obtain ⟨na,nc,rfl⟩:=hV.nonts.shape
 obtain ⟨la,lc,rfl⟩:=hV.levels.shape
 obtain ⟨pa,pc,rfl⟩:=hV.prods.shape
 have hB1:=al' w (.cells #[.slice ra g.rules.length rc,.slice na g.nonts.length nc,.slice la g.levels.length lc,.slice pa g.prods.length pc,.int .i64 g.start] 27)
 have k1:=heap_new w (.cells #[.slice ra g.rules.length rc,.slice na g.nonts.length nc,.slice la g.levels.length lc,.slice pa g.prods.length pc,.int .i64 g.start] 27)
 obtain ⟨W,hW⟩:∃ x,w.alloc (.cells #[.slice ra g.rules.length rc,.slice na g.nonts.length nc,.slice la g.levels.length lc,.slice pa g.prods.length pc,.int .i64 g.start] 27) = x:=⟨_,rfl⟩
 rw [hW] at hB1 k1
 have hk1:=hid (fun u (hu:Below W.heap.size W u) => cells5m (hs_keep k1 hu))
 have hB:=hid hB1
 have b2:=hg.nonts
 have b4:=hg.prods
 have hKp:Hid (∀ u,Below w.heap.size w u → ∀ k (hk:k < g.prods.length),∃ b o q1 q3,pa = some ⟨b,o,none⟩ ∧ u.cell? ⟨b,o + k * 3,none⟩ = some (.int .i64 g.prods[k].left) ∧ u.cell? ⟨b,o + k * 3 + 1,none⟩ = some (.slice q1 g.prods[k].right.length q3) ∧ ∀ j (hj:j < g.prods[k].right.length),∃ b2 o2,q1 = some ⟨b2,o2,none⟩ ∧ u.cell? ⟨b2,o2 + j,none⟩ = some (.int .i64 g.prods[k].right[j])):=hid (fun u hu k hk => by
  obtain ⟨b,o,e,-,hx⟩:=(hV.keep hu).prods.at hk
  obtain ⟨v,x0,x1,x2,hN⟩:=hx
  have hN2:=hN
  obtain ⟨q1,q3,rfl,_,_,hat⟩:=hN2
  refine ⟨b,o,q1,q3,e,x0,x1,fun j hj => ?_⟩
  obtain ⟨b2,o2,e2,-,hc⟩:=hat j hj
  exact ⟨b2,o2,e2,hc⟩)
 have GT:=hid (fun u (hu:Below w.heap.size w u) => refTermsC _ _ _ _ g u (hV.keep hu) (by have:=hb.rules;omega))
 have hrl:=hid (fun k (hk:k < g.prods.length) => (hb.right _ (List.getElem_mem hk)))
 have q0:Hid (∀ r,rcQ g r 0 = rcN g r):=hid (fun r => rfl)
 have q1:Hid (∀ r,rcN g (r + 1) = rcQ g r g.prods.length):=hid (fun r => by unfold rcQ;rw [List.take_length];rfl)
 have t0:Hid (∀ r i,rcT g r i 0 = rcQ g r i):=hid (fun r i => rfl)
 have t1:Hid (∀ r i (hi:i < g.prods.length),rcQ g r (i + 1) = rcT g r i g.prods[i].right.length):=hid (fun r i hi => by
  unfold rcT rcQ
  rw [foldl_take _ _ _ hi,List.getD_eq_getElem?_getD,List.getElem?_eq_getElem hi,Option.getD_some,List.take_length]
  rfl)
 have t2:Hid (∀ r i k (hi:i < g.prods.length) (hk:k < g.prods[i].right.length),rcT g r i (k + 1) = if (decide ((g.terms:Int) < g.prods[i].right[k]) && ((rcT g r i k).contains g.prods[i].left && !(rcT g r i k).contains g.prods[i].right[k])) = true then rcT g r i k ++ [g.prods[i].right[k]] else rcT g r i k):=hid (fun r i k hi hk => by
  unfold rcT
  rw [List.getD_eq_getElem?_getD,List.getElem?_eq_getElem hi,Option.getD_some,foldl_take _ _ _ hk,rcS_eq])
 have lT:=hid (fun r i (hi:i < g.prods.length) k => (rcT_good g r hi k).len hg)
 have lN:=hid (fun r => (rcN_good g r).len hg)
 have hst:Hid (rcN g 0 = if 0 < g.start then [g.start] else []):=hid rfl
 clear hV hB1 k1 hb hg
 obtain ⟨nn,hnn⟩:∃ n,Hid (g.nonts.length = n):=⟨_,hid rfl⟩
 obtain ⟨pp,hpp⟩:∃ n,Hid (g.prods.length = n):=⟨_,hid rfl⟩
 rw [hnn.out] at b2 hk1 GT hW ⊢
 rw [hpp.out] at b4 hk1 GT hW q1 ⊢
 generalize rcN g = FN at *
 generalize rcQ g = FQ at *
 generalize rcT g = FT at *
 generalize g.terms = tm at *
 generalize g.rules.length = rn at *
 generalize g.levels.length = ll at *
 generalize g.start = st at *
 obtain ⟨y0,y1,y2,y3,y4⟩:=hk1.out W (Below.refl _ _)
 by_cases h0:0 < st
 · rw [if_pos h0] at hst
   have hst:=hid hst.out
   have G0:=hid (GT.out W hB.out)
   go_enter Tryz.func38,Tryz.ntmps38
   go_wp2_with (first
    | (go_at_call 21;refine G0.out.mono ?_;clear G0;rintro e w1 ⟨rfl,hc1⟩;obtain ⟨x0,x1,x2,x3,x4⟩:=hk1.out w1 hc1;have hBa:=hid (bl_step hc1 (al' w1 (.cells #[.int .i64 st] 3)));have hDa:=hid (Nums.of_row (Own.lit1 w1 st));clear hc1)
    | (at_builtin;refine wp_app _ rfl _ _ rfl W.heap.size [] [st] _ _ rfl rfl (World.ownsRow_nil _ _ _ _) hDa.out (by simp) hBa.out.size ?_;intro v4 w4 hO4 hb4;have hO0:Hid (Own w4 W.heap.size v4 (FN 0)):=(by rw [hst.out];exact hid hO4);have hb0:=hid (hBa.out.trans hb4);clear hO4 hb4))
   clear hW y0 y1 y2 y3 y4 h0 hst GT hBa hDa x0 x1 x2 x3 x4
   go_loopw [4,5] (fun v i wr => ∃ r:Nat,r ≤ nn + 1 ∧ i = .int .i64 (r:Int) ∧ Hid (Own wr W.heap.size v (FN r)) ∧ Hid (Below W.heap.size W wr)) (fun _ i _ => nn + 1 - (intOf i).toNat)
   case atStart => exact ⟨0,Nat.zero_le _,rfl,hO0,hb0⟩
   case round =>
    clear hO0 hb0
    obtain ⟨r,hr,rfl,hO,hbl⟩:=hrel
    obtain ⟨y0,y1,y2,y3,y4⟩:=hk1.out wr hbl.out
    by_cases hlt:r ≤ nn
    · have hltz:(r:Int) ≤ (nn:Int):=by omega
      have hO1:=hid hO.out
      rw [← q0.out] at hO1
      clear hO
      go_wp2
      clear y0 y1 y2 y3 y4 hltz
      go_loopw [4,6] (fun v i wr => ∃ i':Nat,i' ≤ pp ∧ i = .int .i64 (i':Int) ∧ Hid (Own wr W.heap.size v (FQ r i')) ∧ Hid (Below W.heap.size W wr)) (fun _ i _ => pp - (intOf i).toNat)
      case atStart => exact ⟨0,Nat.zero_le _,rfl,hO1,hbl⟩
      case round =>
       clear hO1 hbl
       obtain ⟨i,hi,rfl,hO,hbl⟩:=hrel
       obtain ⟨y0,y1,y2,y3,y4⟩:=hk1.out wr hbl.out
       by_cases hli:i < pp
       · have hliz:(i:Int) < (pp:Int):=by omega
         have hil:i < g.prods.length:=by rw [hpp.out];exact hli
         have hO1:=hid hO.out
         rw [← t0.out] at hO1
         have hE:=hid (t1.out r i hil)
         have hS:=hid (fun k hk => t2.out r i k hil hk)
         have hL:=hid (fun k => lT.out r i hil k)
         have hP:=hid (fun u hu => hKp.out u hu i hil)
         have hR8:=hrl.out i hil
         clear hO
         go_wp2
         clear y0 y1 y2 y3 y4
         obtain ⟨rl,hrlH⟩:∃ n,Hid (g.prods[i].right.length = n):=⟨_,hid rfl⟩
         rw [hrlH.out] at hE hR8
         go_loopw [4,7] (fun v i' wr => ∃ k:Nat,k ≤ rl ∧ i' = .int .i64 (k:Int) ∧ Hid (Own wr W.heap.size v (FT r i k)) ∧ Hid (Below W.heap.size W wr)) (fun _ i' _ => rl - (intOf i').toNat)
         case atStart => exact ⟨0,Nat.zero_le _,rfl,hO1,hbl⟩
         case round =>
          clear hO1 hbl
          obtain ⟨k,hk,rfl,hO,hbl⟩:=hrel
          obtain ⟨y0,y1,y2,y3,y4⟩:=hk1.out wr hbl.out
          obtain ⟨b,o,z1,z3,e,x0,x1,hat⟩:=hP.out wr (bl_step hB.out hbl.out)
          subst e
          rw [hrlH.out] at x1
          by_cases hlk:k < rl
          · have hlkz:(k:Int) < (rl:Int):=by omega
            have hkl:k < g.prods[i].right.length:=by rw [hrlH.out];exact hlk
            obtain ⟨b2,o2,e2,x2⟩:=hat k hkl
            subst e2
            have hs:=hS.out k hkl
            have hl9:=hL.out k
            have G1:=hid (numHas _ (FT r i k) g.prods[i].left wr (by omega) (Nums.of_row hO.out))
            have G2:=hid (numHas _ (FT r i k) g.prods[i].right[k] wr (by omega) (Nums.of_row hO.out))
            clear hat
            generalize g.prods[i].right[k] = x at *
            generalize g.prods[i].left = xl at *
            generalize hc1:(FT r i k).contains xl = cc1 at *
            generalize hc2:(FT r i k).contains x = cc2 at *
            clear hc1 hc2
            by_cases a1:(tm:Int) < x
            · have a1b:decide ((tm:Int) < x) = true:=decide_eq_true a1
              clear a1
              cases cc1 with
              | false =>
               rw [a1b,Bool.false_and,Bool.and_false,if_neg (by decide)] at hs
               have hO9:=hid hO.out
               rw [← hs] at hO9
               clear hs hO G2 hl9
               go_wp2_with (go_at_call 28;refine G1.out.mono ?_;clear G1;rintro e w3 ⟨rfl,hc3⟩;subst w3)
               go_roundw
               case rel => exact ⟨k + 1,by omega,by go_num,hO9,hbl⟩
               case measure => simp [intOf];omega
              | true =>
               cases cc2 with
               | true =>
                rw [a1b,Bool.true_and,Bool.true_and,Bool.not_true,if_neg (by decide)] at hs
                have hO9:=hid hO.out
                rw [← hs] at hO9
                clear hs hO hl9
                go_wp2_with (first
                 | (go_at_call 28;refine G1.out.mono ?_;clear G1;rintro e w3 ⟨rfl,hc3⟩;subst w3)
                 | (go_at_call 28;refine G2.out.mono ?_;clear G2;rintro e w3 ⟨rfl,hc3⟩;subst w3))
                go_roundw
                case rel => exact ⟨k + 1,by omega,by go_num,hO9,hbl⟩
                case measure => simp [intOf];omega
               | false =>
                rw [a1b,Bool.true_and,Bool.true_and,Bool.not_false,if_pos rfl] at hs
                have hs:=hid hs
                have hal:=al' wr (.cells #[.int .i64 x] 3)
                have hOa:=hid (own_below hO.out hal)
                have hDa:=hid (Nums.of_row (Own.lit1 wr x))
                have hBa:=hid (bl_step hbl.out hal)
                clear hO hal
                go_wp2_with (first
                 | (go_at_call 28;refine G1.out.mono ?_;clear G1;rintro e w3 ⟨rfl,hc3⟩;subst w3)
                 | (go_at_call 28;refine G2.out.mono ?_;clear G2;rintro e w3 ⟨rfl,hc3⟩;subst w3)
                 | (at_builtin;refine wp_app _ rfl _ _ rfl W.heap.size (FT r i k) [x] _ _ rfl rfl hOa.out hDa.out (by simp;omega) hBa.out.size ?_;intro v4 w4 hO4 hb4;have hO9:=hid hO4;have hb9:=hid (hBa.out.trans hb4);clear hO4 hb4))
                go_roundw
                case rel => exact ⟨k + 1,by omega,by go_num,hid (by rw [hs.out];exact hO9.out),hb9⟩
                case measure => simp [intOf];omega
            · have a1b:decide ((tm:Int) < x) = false:=decide_eq_false a1
              clear a1
              rw [a1b,Bool.false_and,if_neg (by decide)] at hs
              have hO9:=hid hO.out
              rw [← hs] at hO9
              clear hs hO G1 G2 hl9
              go_wp2
              go_roundw
              case rel => exact ⟨k + 1,by omega,by go_num,hO9,hbl⟩
              case measure => simp [intOf];omega
          · have hlkz:¬ (k:Int) < (rl:Int):=by omega
            obtain rfl:k = rl:=by omega
            have hO9:=hid hO.out
            rw [← hE.out] at hO9
            clear hO hat
            go_wp2
            go_roundw
            case rel => exact ⟨i + 1,by omega,by go_num,hO9,hbl⟩
            case measure => simp [intOf];omega
       · have hliz:¬ (i:Int) < (pp:Int):=by omega
         obtain rfl:i = pp:=by omega
         have hO9:=hid hO.out
         rw [← q1.out] at hO9
         clear hO
         go_wp2
         go_roundw
         case rel => exact ⟨r + 1,by omega,by go_num,hO9,hbl⟩
         case measure => simp [intOf];omega
    · have hltz:¬ (r:Int) ≤ (nn:Int):=by omega
      obtain rfl:r = nn + 1:=by omega
      have hl9:=lN.out (nn + 1)
      have G:=hid (refOf _ (FN (nn + 1)) wr (by omega) (Nums.of_row hO.out))
      clear hO
      go_wp2_with (go_at_call 29;refine G.out.mono ?_;clear G;rintro e w5 ⟨v5,rfl,hO5,hc5⟩;have hO5:=hid hO5;have hc5:=hid hc5)
      go_ret
      exact ⟨_,rfl,⟨_,hO5.out⟩,bl_step hB.out (bl_step hbl.out hc5.out)⟩
 · rw [if_neg h0] at hst
   have hst:=hid hst.out
   have G0:=hid (GT.out W hB.out)
   go_enter Tryz.func38,Tryz.ntmps38
   go_wp2_with (go_at_call 21;refine G0.out.mono ?_;clear G0;rintro e w1 ⟨rfl,hc1⟩;obtain ⟨x0,x1,x2,x3,x4⟩:=hk1.out w1 hc1;have hb0:=hid hc1;clear hc1)
   have hO0:Hid (Own w1 W.heap.size (.slice none 0 0) (FN 0)):=hid (by rw [hst.out];exact World.ownsRow_nil _ _ _ _)
   clear hW y0 y1 y2 y3 y4 h0 hst GT x0 x1 x2 x3 x4
   go_loopw [4,5] (fun v i wr => ∃ r:Nat,r ≤ nn + 1 ∧ i = .int .i64 (r:Int) ∧ Hid (Own wr W.heap.size v (FN r)) ∧ Hid (Below W.heap.size W wr)) (fun _ i _ => nn + 1 - (intOf i).toNat)
   case atStart => exact ⟨0,Nat.zero_le _,rfl,hO0,hb0⟩
   case round =>
    clear hO0 hb0
    obtain ⟨r,hr,rfl,hO,hbl⟩:=hrel
    obtain ⟨y0,y1,y2,y3,y4⟩:=hk1.out wr hbl.out
    by_cases hlt:r ≤ nn
    · have hltz:(r:Int) ≤ (nn:Int):=by omega
      have hO1:=hid hO.out
      rw [← q0.out] at hO1
      clear hO
      go_wp2
      clear y0 y1 y2 y3 y4 hltz
      go_loopw [4,6] (fun v i wr => ∃ i':Nat,i' ≤ pp ∧ i = .int .i64 (i':Int) ∧ Hid (Own wr W.heap.size v (FQ r i')) ∧ Hid (Below W.heap.size W wr)) (fun _ i _ => pp - (intOf i).toNat)
      case atStart => exact ⟨0,Nat.zero_le _,rfl,hO1,hbl⟩
      case round =>
       clear hO1 hbl
       obtain ⟨i,hi,rfl,hO,hbl⟩:=hrel
       obtain ⟨y0,y1,y2,y3,y4⟩:=hk1.out wr hbl.out
       by_cases hli:i < pp
       · have hliz:(i:Int) < (pp:Int):=by omega
         have hil:i < g.prods.length:=by rw [hpp.out];exact hli
         have hO1:=hid hO.out
         rw [← t0.out] at hO1
         have hE:=hid (t1.out r i hil)
         have hS:=hid (fun k hk => t2.out r i k hil hk)
         have hL:=hid (fun k => lT.out r i hil k)
         have hP:=hid (fun u hu => hKp.out u hu i hil)
         have hR8:=hrl.out i hil
         clear hO
         go_wp2
         clear y0 y1 y2 y3 y4
         obtain ⟨rl,hrlH⟩:∃ n,Hid (g.prods[i].right.length = n):=⟨_,hid rfl⟩
         rw [hrlH.out] at hE hR8
         go_loopw [4,7] (fun v i' wr => ∃ k:Nat,k ≤ rl ∧ i' = .int .i64 (k:Int) ∧ Hid (Own wr W.heap.size v (FT r i k)) ∧ Hid (Below W.heap.size W wr)) (fun _ i' _ => rl - (intOf i').toNat)
         case atStart => exact ⟨0,Nat.zero_le _,rfl,hO1,hbl⟩
         case round =>
          clear hO1 hbl
          obtain ⟨k,hk,rfl,hO,hbl⟩:=hrel
          obtain ⟨y0,y1,y2,y3,y4⟩:=hk1.out wr hbl.out
          obtain ⟨b,o,z1,z3,e,x0,x1,hat⟩:=hP.out wr (bl_step hB.out hbl.out)
          subst e
          rw [hrlH.out] at x1
          by_cases hlk:k < rl
          · have hlkz:(k:Int) < (rl:Int):=by omega
            have hkl:k < g.prods[i].right.length:=by rw [hrlH.out];exact hlk
            obtain ⟨b2,o2,e2,x2⟩:=hat k hkl
            subst e2
            have hs:=hS.out k hkl
            have hl9:=hL.out k
            have G1:=hid (numHas _ (FT r i k) g.prods[i].left wr (by omega) (Nums.of_row hO.out))
            have G2:=hid (numHas _ (FT r i k) g.prods[i].right[k] wr (by omega) (Nums.of_row hO.out))
            clear hat
            generalize g.prods[i].right[k] = x at *
            generalize g.prods[i].left = xl at *
            generalize hc1:(FT r i k).contains xl = cc1 at *
            generalize hc2:(FT r i k).contains x = cc2 at *
            clear hc1 hc2
            by_cases a1:(tm:Int) < x
            · have a1b:decide ((tm:Int) < x) = true:=decide_eq_true a1
              clear a1
              cases cc1 with
              | false =>
               rw [a1b,Bool.false_and,Bool.and_false,if_neg (by decide)] at hs
               have hO9:=hid hO.out
               rw [← hs] at hO9
               clear hs hO G2 hl9
               go_wp2_with (go_at_call 28;refine G1.out.mono ?_;clear G1;rintro e w3 ⟨rfl,hc3⟩;subst w3)
               go_roundw
               case rel => exact ⟨k + 1,by omega,by go_num,hO9,hbl⟩
               case measure => simp [intOf];omega
              | true =>
               cases cc2 with
               | true =>
                rw [a1b,Bool.true_and,Bool.true_and,Bool.not_true,if_neg (by decide)] at hs
                have hO9:=hid hO.out
                rw [← hs] at hO9
                clear hs hO hl9
                go_wp2_with (first
                 | (go_at_call 28;refine G1.out.mono ?_;clear G1;rintro e w3 ⟨rfl,hc3⟩;subst w3)
                 | (go_at_call 28;refine G2.out.mono ?_;clear G2;rintro e w3 ⟨rfl,hc3⟩;subst w3))
                go_roundw
                case rel => exact ⟨k + 1,by omega,by go_num,hO9,hbl⟩
                case measure => simp [intOf];omega
               | false =>
                rw [a1b,Bool.true_and,Bool.true_and,Bool.not_false,if_pos rfl] at hs
                have hs:=hid hs
                have hal:=al' wr (.cells #[.int .i64 x] 3)
                have hOa:=hid (own_below hO.out hal)
                have hDa:=hid (Nums.of_row (Own.lit1 wr x))
                have hBa:=hid (bl_step hbl.out hal)
                clear hO hal
                go_wp2_with (first
                 | (go_at_call 28;refine G1.out.mono ?_;clear G1;rintro e w3 ⟨rfl,hc3⟩;subst w3)
                 | (go_at_call 28;refine G2.out.mono ?_;clear G2;rintro e w3 ⟨rfl,hc3⟩;subst w3)
                 | (at_builtin;refine wp_app _ rfl _ _ rfl W.heap.size (FT r i k) [x] _ _ rfl rfl hOa.out hDa.out (by simp;omega) hBa.out.size ?_;intro v4 w4 hO4 hb4;have hO9:=hid hO4;have hb9:=hid (hBa.out.trans hb4);clear hO4 hb4))
                go_roundw
                case rel => exact ⟨k + 1,by omega,by go_num,hid (by rw [hs.out];exact hO9.out),hb9⟩
                case measure => simp [intOf];omega
            · have a1b:decide ((tm:Int) < x) = false:=decide_eq_false a1
              clear a1
              rw [a1b,Bool.false_and,if_neg (by decide)] at hs
              have hO9:=hid hO.out
              rw [← hs] at hO9
              clear hs hO G1 G2 hl9
              go_wp2
              go_roundw
              case rel => exact ⟨k + 1,by omega,by go_num,hO9,hbl⟩
              case measure => simp [intOf];omega
          · have hlkz:¬ (k:Int) < (rl:Int):=by omega
            obtain rfl:k = rl:=by omega
            have hO9:=hid hO.out
            rw [← hE.out] at hO9
            clear hO hat
            go_wp2
            go_roundw
            case rel => exact ⟨i + 1,by omega,by go_num,hO9,hbl⟩
            case measure => simp [intOf];omega
       · have hliz:¬ (i:Int) < (pp:Int):=by omega
         obtain rfl:i = pp:=by omega
         have hO9:=hid hO.out
         rw [← q1.out] at hO9
         clear hO
         go_wp2
         go_roundw
         case rel => exact ⟨r + 1,by omega,by go_num,hO9,hbl⟩
         case measure => simp [intOf];omega
    · have hltz:¬ (r:Int) ≤ (nn:Int):=by omega
      obtain rfl:r = nn + 1:=by omega
      have hl9:=lN.out (nn + 1)
      have G:=hid (refOf _ (FN (nn + 1)) wr (by omega) (Nums.of_row hO.out))
      clear hO
      go_wp2_with (go_at_call 29;refine G.out.mono ?_;clear G;rintro e w5 ⟨v5,rfl,hO5,hc5⟩;have hO5:=hid hO5;have hc5:=hid hc5)
      go_ret
      exact ⟨_,rfl,⟨_,hO5.out⟩,bl_step hB.out (bl_step hbl.out hc5.out)⟩
end Go.Proofs.YtfhokapfkclckaaGreat
namespace Go.Proofs.YtfhokapfkclckaaGreat
noncomputable def rchA (g:Gm):List Int:=open Classical in if SndG g then ofL (rcN g (g.nonts.length + 1)) else []
end Go.Proofs.YtfhokapfkclckaaGreat
namespace Go.Proofs.YtfhokapfkclckaaGreat
open Go.RowKit Go.Maps Go.Sort
set_option maxRecDepth 20000 in
set_option maxHeartbeats 16000000 in
theorem reachedP (g:Gm) (rv nv lv pv:Value) (w:World) (hV:GmV w rv nv lv pv g) (hb:BndG g) (hnl:∀ t ∈ g.allN,t.length ≤ 1000000) :
 Calls Tryz.prog 54 #[gmA rv nv lv pv g.start] w fun e w' => ∃ v,e = .returned v ∧ Nums w' v (rchA g) ∧ Below w.heap.size w w':=by
 have hB1:=al' w (.cells #[rv,nv,lv,pv,.int .i64 g.start] 27)
 have k1:=heap_new w (.cells #[rv,nv,lv,pv,.int .i64 g.start] 27)
 obtain ⟨W,hW⟩:∃ x,w.alloc (.cells #[rv,nv,lv,pv,.int .i64 g.start] 27) = x:=⟨_,rfl⟩
 rw [hW] at hB1 k1
 have hk1:=hid (fun u (hu:Below W.heap.size W u) => cells5m (hs_keep k1 hu))
 have hB:=hid hB1
 have G0:=hid (soundP g _ _ _ _ W (hV.keep hB1) hb hnl)
 obtain ⟨y0,y1,y2,y3,y4⟩:=hk1.out W (Below.refl _ _)
 by_cases hg:SndG g
 · rw [soundB_yes hg] at G0
   have b1:=hg.rules
   have b2:=hg.nonts
   have eA:rchA g = ofL (rcN g (g.nonts.length + 1)):=by unfold rchA;exact @if_pos _ (Classical.propDecidable _) hg _ _ _
   have GR:=hid (fun u (hu:Below W.heap.size W u) => markR g hg _ _ _ _ u (hV.keep (bl_step hB1 hu)))
   have GM:Hid (∀ v (L:List Bool) u,Below W.heap.size W u → MkV u v L → L.length = g.nonts.length → (∀ n,Mrk g.terms L n ↔ Rch g n) → Calls Tryz.prog 75 #[gmA rv nv lv pv g.start,v] u fun e w' => ∃ v',e = .returned v' ∧ Nums w' v' (rchA g) ∧ Below u.heap.size u w'):=hid (fun v L u hu h hl hL => by
    refine (markedC g rv nv lv pv g.start v L u (hV.keep (bl_step hB1 hu)) (by omega) h (by omega)).mono ?_
    rintro e w' ⟨v',rfl,hO,hbl⟩
    refine ⟨v',rfl,?_,hbl⟩
    rw [eA,← mksL_is (fun n => (hL n).trans (rcN_all hg n).symm)]
    exact Nums.of_row hO)
   clear hV hB1 k1 hb hg hnl eA b1 b2
   generalize rchA g = R at *
   generalize g.start = st at *
   go_enter Tryz.func54,Tryz.ntmps54
   go_wp2_with (go_at_call 23;refine G0.out.mono ?_;clear G0;rintro e w1 ⟨rfl,hc1⟩;have h1:=hid hc1;clear hc1)
   clear hW y0 y1 y2 y3 y4
   have hcur:=hid (show Below W.heap.size W w1.drew from h1.out.drew)
   obtain ⟨z0,z1,z2,z3,z4⟩:=hk1.out _ hcur.out
   clear h1
   go_region_held3 (fun w' => w'.cell? ⟨w.heap.size,0,none⟩ = some rv ∧ w'.cell? ⟨w.heap.size,1,none⟩ = some nv ∧ w'.cell? ⟨w.heap.size,2,none⟩ = some lv ∧ w'.cell? ⟨w.heap.size,3,none⟩ = some pv ∧ w'.cell? ⟨w.heap.size,4,none⟩ = some (.int .i64 st)) (go_keep) ((first
    | (go_at_call 76;refine (GR.out _ hcur.out).mono ?_;rintro e w3 ⟨v3,L3,rfl,hv3,hl3,hr3,hc⟩;have hn:=hid (bl_step hcur.out hc);clear hcur z0 z1 z2 z3 z4;have hcur:=hn;clear hn;have GN:=hid (GM.out v3 L3 w3 hcur.out hv3 hl3 hr3);clear hr3 hl3 hc;obtain ⟨m3,rfl,-⟩:=id hv3;clear hv3;obtain ⟨z0,z1,z2,z3,z4⟩:=hk1.out _ hcur.out)
    | (go_at_call 75;refine GN.out.mono ?_;rintro e w4 ⟨v4,rfl,hN4,hc⟩;have hN9:=hid hN4;clear hN4;have hn:=hid (bl_step hcur.out hc);clear hcur z0 z1 z2 z3 z4;have hcur:=hn;clear hn hc;obtain ⟨z0,z1,z2,z3,z4⟩:=hk1.out _ hcur.out)))
   all_goals
    go_wp2
    go_ret
    exact ⟨_,rfl,hN9.out,bl_step hB.out hcur.out⟩
 · rw [soundB_no hg] at G0
   have eA:rchA g = []:=by unfold rchA;exact @if_neg _ (Classical.propDecidable _) hg _ _ _
   rw [eA]
   clear hV hB1 k1 hb hg hnl hk1 eA
   generalize g.start = st at *
   go_enter Tryz.func54,Tryz.ntmps54
   go_wp2_with (go_at_call 23;refine G0.out.mono ?_;clear G0;rintro e w1 ⟨rfl,hc1⟩;have h1:=hid hc1;clear hc1)
   go_ret
   exact ⟨_,rfl,Nums.nil _,bl_step hB.out h1.out⟩
end Go.Proofs.YtfhokapfkclckaaGreat
