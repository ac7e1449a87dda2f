/- Package check: slices.Index of marks, marked. The reference: Reached. What package check answers: what is reached. Package check: Reached, Ends; all that is asked of it. -/
import Derived.Test.YtfhokapfkclckaaGreatJ34
import Derived.Test.YtfhokapfkclckaaGreatJ3
import Derived.Test.YtfhokapfkclckaaGreatJ25
import Derived.Test.YtfhokapfkclckaaGreatJ16
import Derived.Test.YtfhokapfkclckaaGreatJ4
import Derived.Test.YtfhokapfkclckaaGreatJ31
import Derived.Test.YtfhokapfkclckaaGreatJ17
namespace Go.Proofs.YtfhokapfkclckaaGreat
open Go.RowKit Go.Maps Go.Sort
set_option maxRecDepth 20000 in
set_option maxHeartbeats 16000000 in
theorem markedC (g:Gm) (rv nv lv pv:Value) (st:Int) (v:Value) (L:List Bool) (w:World) (hV:GmV w rv nv lv pv g) (hl:g.rules.length ≤ 1000) (h:MkV w v L) (hL:L.length ≤ 1000) :
 Calls Tryz.prog 75 #[gmA rv nv lv pv st,v] w fun e w' => ∃ v',e = .returned v' ∧ Own w' w.heap.size v' (mksL g.terms L L.length) ∧ Below w.heap.size w w':=by
 obtain ⟨mb,rfl,hb⟩:=h
 have hB1:=al' w (.cells #[rv,nv,lv,pv,.int .i64 st] 27)
 have k1:=heap_new w (.cells #[rv,nv,lv,pv,.int .i64 st] 27)
 obtain ⟨W,hW⟩:∃ x,w.alloc (.cells #[rv,nv,lv,pv,.int .i64 st] 27) = x:=⟨_,rfl⟩
 rw [hW] at hB1 k1
 have hB:=hid hB1
 have hk1:=hid (fun u (hu:Below W.heap.size W u) => cells5m (hs_keep k1 hu))
 have hc:Hid (∀ u,Below W.heap.size W u → ∀ k (hk:k < L.length),u.cell? ⟨mb,k,none⟩ = some (.bool L[k])):=hid (fun u hu k hk => blk_cell (hs_keep hb (bl_step hB1 hu)) (by simp [hk]))
 have G0:=hid (fun u (hu:Below W.heap.size W u) => firstC rv nv lv pv g st u (hV.keep (bl_step hB1 hu)) hl)
 have ht:=terms_le g
 have hsz:w.heap.size ≤ W.heap.size:=hB1.size
 generalize g.terms = tm at *
 have hs1:Hid (∀ k (hk:k < L.length),L[k] = true → mksL tm L (k + 1) = mksL tm L k ++ [(tm:Int) + 1 + (k:Int)]):=hid (fun k hk h => by
  show mksL tm L k ++ _ = _
  rw [List.getD_eq_getElem?_getD,List.getElem?_eq_getElem hk,h]
  rfl)
 have hs2:Hid (∀ k (hk:k < L.length),L[k] = false → mksL tm L (k + 1) = mksL tm L k):=hid (fun k hk h => by
  show mksL tm L k ++ _ = _
  rw [List.getD_eq_getElem?_getD,List.getElem?_eq_getElem hk,h]
  exact List.append_nil _)
 have hlen:=hid (fun k => mksL_len tm L k)
 have hst0:Hid (Own W W.heap.size (.slice none 0 0) (mksL tm L 0)):=hid (World.ownsRow_nil _ _ _ _)
 generalize mksL tm L = F at *
 obtain ⟨n,hn⟩:∃ n,Hid (L.length = n):=⟨_,hid rfl⟩
 rw [hn.out] at hL ⊢
 clear hb hV hB1 k1
 go_enter Tryz.func75,Tryz.ntmps75
 go_wp2
 clear hW
 go_loopw [5,10] (fun v i wr => ∃ k:Nat,k ≤ n ∧ i = .int .i64 (k:Int) ∧ Hid (Own wr W.heap.size v (F k)) ∧ Hid (Below W.heap.size W wr)) (fun _ i _ => n - (intOf i).toNat)
 case atStart => exact ⟨0,Nat.zero_le _,rfl,hst0,hid (Below.refl _ _)⟩
 case round =>
  obtain ⟨k,hk,rfl,hO,hbl⟩:=hrel
  by_cases hlt:k < n
  · have hltz:(k:Int) < (n:Int):=by omega
    have hkl:k < L.length:=by rw [hn.out];exact hlt
    have c0:=hc.out wr hbl.out k hkl
    obtain ⟨y0,y1,y2,y3,y4⟩:=hk1.out wr hbl.out
    have e1:=hs1.out k hkl
    have e2:=hs2.out k hkl
    have hlF:=hlen.out k
    generalize L[k] = b at *
    cases b with
    | false =>
     have hO9:=hid hO.out
     rw [← e2 rfl] at hO9
     clear e1 e2 hO y0 y1 y2 y3 y4
     go_wp2
     go_roundw
     case rel => exact ⟨k + 1,by omega,by go_num,hO9,hbl⟩
     case measure => simp [intOf];omega
    | true =>
     have e9:=hid (e1 rfl)
     have G:=hid (G0.out wr hbl.out)
     clear e1 e2
     go_wp2_with (first
      | (go_at_call 90;refine G.out.mono ?_;clear G;rintro e w3 ⟨rfl,hc3⟩
         have hal:=al' w3 (.cells #[.int .i64 ((tm:Int) + 1 + (k:Int))] 3)
         have hOa:=hid (own_below (own_below hO.out hc3) hal)
         have hDa:=hid (Nums.of_row (Own.lit1 w3 ((tm:Int) + 1 + (k:Int))))
         have hBa:=hid (bl_step (bl_step hbl.out hc3) hal)
         clear hal hc3)
      | (at_builtin;refine wp_app _ rfl _ _ rfl W.heap.size (F k) [(tm:Int) + 1 + (k:Int)] _ _ rfl rfl hOa.out hDa.out (by simp;omega) hBa.out.size ?_;intro v4 w4 hO4 hb4;have hO9:=hid hO4;have hb9:=hid (hBa.out.trans hb4);clear hO4 hb4))
     go_roundw
     case rel => exact ⟨k + 1,by omega,by go_num,hid (by rw [e9.out];exact hO9.out),hb9⟩
     case measure => simp [intOf];omega
  · have hltz:¬ (k:Int) < (n:Int):=by omega
    obtain rfl:k = n:=by omega
    go_wp2
    go_ret
    exact ⟨_,rfl,own_base hO.out hsz,bl_step hB.out hbl.out⟩
end Go.Proofs.YtfhokapfkclckaaGreat
namespace Go.Proofs.YtfhokapfkclckaaGreat
open Go.RowKit Go.Maps Go.Sort
end Go.Proofs.YtfhokapfkclckaaGreat
namespace Go.Proofs.YtfhokapfkclckaaGreat
noncomputable def rchA (g:Gm):List Int:=open Classical in if SndG g then ofL (rcN g (g.nonts.length + 1)) else []
end Go.Proofs.YtfhokapfkclckaaGreat
namespace Go.Proofs.YtfhokapfkclckaaGreat
open Go.RowKit Go.Maps Go.Sort
set_option maxRecDepth 20000 in
set_option maxHeartbeats 16000000 in
theorem reachedP (g:Gm) (rv nv lv pv:Value) (w:World) (hV:GmV w rv nv lv pv g) (hb:BndG g) (hnl:∀ t ∈ g.allN,t.length ≤ 1000000) :
 Calls Tryz.prog 54 #[gmA rv nv lv pv g.start] w fun e w' => ∃ v,e = .returned v ∧ Nums w' v (rchA g) ∧ Below w.heap.size w w':=by
 have hB1:=al' w (.cells #[rv,nv,lv,pv,.int .i64 g.start] 27)
 have k1:=heap_new w (.cells #[rv,nv,lv,pv,.int .i64 g.start] 27)
 obtain ⟨W,hW⟩:∃ x,w.alloc (.cells #[rv,nv,lv,pv,.int .i64 g.start] 27) = x:=⟨_,rfl⟩
 rw [hW] at hB1 k1
 have hk1:=hid (fun u (hu:Below W.heap.size W u) => cells5m (hs_keep k1 hu))
 have hB:=hid hB1
 have G0:=hid (soundP g _ _ _ _ W (hV.keep hB1) hb hnl)
 obtain ⟨y0,y1,y2,y3,y4⟩:=hk1.out W (Below.refl _ _)
 by_cases hg:SndG g
 · rw [soundB_yes hg] at G0
   have b1:=hg.rules
   have b2:=hg.nonts
   have eA:rchA g = ofL (rcN g (g.nonts.length + 1)):=by unfold rchA;exact @if_pos _ (Classical.propDecidable _) hg _ _ _
   have GR:=hid (fun u (hu:Below W.heap.size W u) => markR g hg _ _ _ _ u (hV.keep (bl_step hB1 hu)))
   have GM:Hid (∀ v (L:List Bool) u,Below W.heap.size W u → MkV u v L → L.length = g.nonts.length → (∀ n,Mrk g.terms L n ↔ Rch g n) → Calls Tryz.prog 75 #[gmA rv nv lv pv g.start,v] u fun e w' => ∃ v',e = .returned v' ∧ Nums w' v' (rchA g) ∧ Below u.heap.size u w'):=hid (fun v L u hu h hl hL => by
    refine (markedC g rv nv lv pv g.start v L u (hV.keep (bl_step hB1 hu)) (by omega) h (by omega)).mono ?_
    rintro e w' ⟨v',rfl,hO,hbl⟩
    refine ⟨v',rfl,?_,hbl⟩
    rw [eA,← mksL_is (fun n => (hL n).trans (rcN_all hg n).symm)]
    exact Nums.of_row hO)
   clear hV hB1 k1 hb hg hnl eA b1 b2
   generalize rchA g = R at *
   generalize g.start = st at *
   go_enter Tryz.func54,Tryz.ntmps54
   go_wp2_with (go_at_call 23;refine G0.out.mono ?_;clear G0;rintro e w1 ⟨rfl,hc1⟩;have h1:=hid hc1;clear hc1)
   clear hW y0 y1 y2 y3 y4
   have hcur:=hid (show Below W.heap.size W w1.drew from h1.out.drew)
   obtain ⟨z0,z1,z2,z3,z4⟩:=hk1.out _ hcur.out
   clear h1
   go_region_held3 (fun w' => w'.cell? ⟨w.heap.size,0,none⟩ = some rv ∧ w'.cell? ⟨w.heap.size,1,none⟩ = some nv ∧ w'.cell? ⟨w.heap.size,2,none⟩ = some lv ∧ w'.cell? ⟨w.heap.size,3,none⟩ = some pv ∧ w'.cell? ⟨w.heap.size,4,none⟩ = some (.int .i64 st)) (go_keep) ((first
    | (go_at_call 76;refine (GR.out _ hcur.out).mono ?_;rintro e w3 ⟨v3,L3,rfl,hv3,hl3,hr3,hc⟩;have hn:=hid (bl_step hcur.out hc);clear hcur z0 z1 z2 z3 z4;have hcur:=hn;clear hn;have GN:=hid (GM.out v3 L3 w3 hcur.out hv3 hl3 hr3);clear hr3 hl3 hc;obtain ⟨m3,rfl,-⟩:=id hv3;clear hv3;obtain ⟨z0,z1,z2,z3,z4⟩:=hk1.out _ hcur.out)
    | (go_at_call 75;refine GN.out.mono ?_;rintro e w4 ⟨v4,rfl,hN4,hc⟩;have hN9:=hid hN4;clear hN4;have hn:=hid (bl_step hcur.out hc);clear hcur z0 z1 z2 z3 z4;have hcur:=hn;clear hn hc;obtain ⟨z0,z1,z2,z3,z4⟩:=hk1.out _ hcur.out)))
   all_goals
    go_wp2
    go_ret
    exact ⟨_,rfl,hN9.out,bl_step hB.out hcur.out⟩
 · rw [soundB_no hg] at G0
   have eA:rchA g = []:=by unfold rchA;exact @if_neg _ (Classical.propDecidable _) hg _ _ _
   rw [eA]
   clear hV hB1 k1 hb hg hnl hk1 eA
   generalize g.start = st at *
   go_enter Tryz.func54,Tryz.ntmps54
   go_wp2_with (go_at_call 23;refine G0.out.mono ?_;clear G0;rintro e w1 ⟨rfl,hc1⟩;have h1:=hid hc1;clear hc1)
   go_ret
   exact ⟨_,rfl,Nums.nil _,bl_step hB.out h1.out⟩
end Go.Proofs.YtfhokapfkclckaaGreat
