/- Package check: Sound. Package items: hasItems, sideOf. Package items: isItem, behind. Package items, the maths: the closure by symbols, each gone through once; what moves over a symbol. -/
import Derived.Test.YtbpnioehmohbcaaGreatJ39
import Derived.Test.YtbpnioehmohbcaaGreatJ34
import Derived.Test.YtbpnioehmohbcaaGreatJ32
import Derived.Lib.SliceRun
namespace Go.Proofs.YtbpnioehmohbcaaGreat
open Go.RowKit Go.Maps Go.Sort
theorem sound_parts (g:Gm):SndG g ↔ sizeB g = true ∧ (g.rules.all fun r => rightB r.re) = true ∧ nms2B g = true ∧ levsB g = true ∧ startB g = true ∧ g.prods.all (pdB g) = true:=by
 have hlv:levsB g = true ↔ LevOK g:=⟨fun h => Classical.byContradiction fun hn => (by rw [levsB_no hn] at h;cases h),levsB_yes⟩
 rw [hlv]
 unfold sizeB nms2B
 simp only [Bool.and_eq_true,decide_eq_true_eq,List.all_eq_true]
 constructor
 · intro h
   refine ⟨⟨⟨h.rules,h.nonts⟩,h.prods⟩,h.right,⟨h.named,h.once⟩,⟨h.levels,h.lev⟩,?_,h.prod⟩
   unfold startB
   split
   · rename_i h0
     exact decide_eq_true (h.none h0)
   · rename_i h0
     have:=h.start (by omega)
     unfold ntmB
     rw [decide_eq_true this.1,decide_eq_true this.2]
     rfl
 · rintro ⟨⟨⟨h1,h2⟩,h3⟩,h4,⟨h5,h6⟩,h7,h8,h9⟩
   unfold startB at h8
   refine ⟨h1,h2,h3,h4,h5,h6,h7.len,h7.lev,fun h0 => ?_,fun h0 => ?_,h9⟩
   · rw [if_pos h0] at h8
     exact of_decide_eq_true h8
   · rw [if_neg (by omega)] at h8
     unfold ntmB at h8
     rw [Bool.and_eq_true] at h8
     exact ⟨of_decide_eq_true h8.1,of_decide_eq_true h8.2⟩
theorem soundB_is (g:Gm):soundB g = (sizeB g && (g.rules.all fun r => rightB r.re) && nms2B g && levsB g && startB g && g.prods.all (pdB g)):=by
 by_cases h:SndG g
 · rw [soundB_yes h]
   obtain ⟨h1,h2,h3,h4,h5,h6⟩:=(sound_parts g).1 h
   rw [h1,h2,h3,h4,h5,h6]
   rfl
 · rw [soundB_no h]
   symm
   refine Bool.eq_false_iff.2 fun h9 => h ((sound_parts g).2 ?_)
   simp only [Bool.and_eq_true] at h9
   exact ⟨h9.1.1.1.1.1,h9.1.1.1.1.2,h9.1.1.1.2,h9.1.1.2,h9.1.2,h9.2⟩
set_option maxRecDepth 20000 in
set_option maxHeartbeats 16000000 in
theorem soundP (g:Gm) (rv nv lv pv:Value) (w:World) (hV:GmV w rv nv lv pv g) (hb:BndG g) (hnl:∀ t ∈ g.allN,t.length ≤ 1000000) :
 Calls Tryz.prog 38 #[gmA rv nv lv pv g.start] w fun e w' => e = .returned (.bool (soundB g)) ∧ Below w.heap.size w w':=by
 have hB1:=al' w (.cells #[rv,nv,lv,pv,.int .i64 g.start] 27)
 have k1:=heap_new w (.cells #[rv,nv,lv,pv,.int .i64 g.start] 27)
 obtain ⟨W,hW⟩:∃ x,w.alloc (.cells #[rv,nv,lv,pv,.int .i64 g.start] 27) = x:=⟨_,rfl⟩
 rw [hW] at hB1 k1
 have hB:=hid hB1
 have hk1:=hid (fun u (hu:Below W.heap.size W u) => cells5m (hs_keep k1 hu))
 have hr:=hb.rules
 have hn:=hb.nonts
 have hlv:=hb.levels
 have hpr:=hb.prods
 have G0:=hid (fun u (hu:Below W.heap.size W u) => sizeC rv nv lv pv g g.start u (hV.keep (bl_step hB1 hu)))
 have G1:=hid (fun u (hu:Below W.heap.size W u) => rulesC rv nv lv pv g g.start u (hV.keep (bl_step hB1 hu)) hr)
 have G2:Hid (sizeB g = true → ∀ u (_:Below W.heap.size W u),Calls Tryz.prog 49 #[gmA rv nv lv pv g.start] u fun e w' => e = .returned (.bool (nms2B g)) ∧ Below u.heap.size u w'):=hid (fun hs u hu => by
  unfold sizeB at hs
  simp only [Bool.and_eq_true,decide_eq_true_eq] at hs
  exact namesP rv nv lv pv g g.start u (hV.keep (bl_step hB1 hu)) (by omega) (by omega) hnl)
 have G3:=hid (fun u (hu:Below W.heap.size W u) => levelsC rv nv lv pv g g.start u (hV.keep (bl_step hB1 hu)) hr hlv)
 have G4:=hid (fun u (hu:Below W.heap.size W u) => startK3 rv nv lv pv g u (hV.keep (bl_step hB1 hu)) hr hn)
 have G5:=hid (fun u (hu:Below W.heap.size W u) => prodsC rv nv lv pv g g.start u (hV.keep (bl_step hB1 hu)) hb hr hn hpr)
 obtain ⟨x0,x1,x2,x3,x4⟩:=hk1.out W (Below.refl _ _)
 rw [soundB_is]
 have hcells:Hid (Below W.heap.size W W):=hid (Below.refl _ _)
 clear hV hB1 k1 hb hnl hr hn hlv hpr
 generalize g.start = st at *
 generalize sizeB g = B0 at *
 generalize (g.rules.all fun r => rightB r.re) = B1 at *
 generalize nms2B g = B2 at *
 generalize levsB g = B3 at *
 generalize startB g = B4 at *
 generalize g.prods.all (pdB g) = B5 at *
 cases B0 with
 | false =>
  go_enter Tryz.func38,Tryz.ntmps38
  go_wp2_with (first
   | (go_at_call 47;refine (G0.out _ hcells.out).mono ?_;clear G0;rintro e w1 ⟨rfl,hc1⟩;have h1:=hid (bl_step hcells.out hc1);obtain ⟨y0a,y0b,y0c,y0d,y0e⟩:=hk1.out w1 h1.out;clear hc1))
  go_ret
  exact ⟨by simp,bl_step hB.out h1.out⟩
 | true =>
  have GX:=hid (fun u (hu:Below W.heap.size W u) => G2.out rfl u hu)
  clear G2
  cases B1 with
  | false =>
   go_enter Tryz.func38,Tryz.ntmps38
   go_wp2_with (first
    | (go_at_call 47;refine (G0.out _ hcells.out).mono ?_;clear G0;rintro e w1 ⟨rfl,hc1⟩;have h1:=hid (bl_step hcells.out hc1);obtain ⟨y0a,y0b,y0c,y0d,y0e⟩:=hk1.out w1 h1.out;clear hc1)
    | (go_at_call 48;refine (G1.out _ h1.out).mono ?_;clear G1;rintro e w2 ⟨rfl,hc2⟩;have h2:=hid (bl_step h1.out hc2);obtain ⟨y1a,y1b,y1c,y1d,y1e⟩:=hk1.out w2 h2.out;clear hc2))
   go_ret
   exact ⟨by simp,bl_step hB.out h2.out⟩
  | true =>
   cases B2 with
   | false =>
    go_enter Tryz.func38,Tryz.ntmps38
    go_wp2_with (first
     | (go_at_call 47;refine (G0.out _ hcells.out).mono ?_;clear G0;rintro e w1 ⟨rfl,hc1⟩;have h1:=hid (bl_step hcells.out hc1);obtain ⟨y0a,y0b,y0c,y0d,y0e⟩:=hk1.out w1 h1.out;clear hc1)
     | (go_at_call 48;refine (G1.out _ h1.out).mono ?_;clear G1;rintro e w2 ⟨rfl,hc2⟩;have h2:=hid (bl_step h1.out hc2);obtain ⟨y1a,y1b,y1c,y1d,y1e⟩:=hk1.out w2 h2.out;clear hc2)
     | (go_at_call 49;refine (GX.out _ h2.out).mono ?_;clear GX;rintro e w3 ⟨rfl,hc3⟩;have h3:=hid (bl_step h2.out hc3);obtain ⟨y2a,y2b,y2c,y2d,y2e⟩:=hk1.out w3 h3.out;clear hc3))
    go_ret
    exact ⟨by simp,bl_step hB.out h3.out⟩
   | true =>
    cases B3 with
    | false =>
     go_enter Tryz.func38,Tryz.ntmps38
     go_wp2_with (first
      | (go_at_call 47;refine (G0.out _ hcells.out).mono ?_;clear G0;rintro e w1 ⟨rfl,hc1⟩;have h1:=hid (bl_step hcells.out hc1);obtain ⟨y0a,y0b,y0c,y0d,y0e⟩:=hk1.out w1 h1.out;clear hc1)
      | (go_at_call 48;refine (G1.out _ h1.out).mono ?_;clear G1;rintro e w2 ⟨rfl,hc2⟩;have h2:=hid (bl_step h1.out hc2);obtain ⟨y1a,y1b,y1c,y1d,y1e⟩:=hk1.out w2 h2.out;clear hc2)
      | (go_at_call 49;refine (GX.out _ h2.out).mono ?_;clear GX;rintro e w3 ⟨rfl,hc3⟩;have h3:=hid (bl_step h2.out hc3);obtain ⟨y2a,y2b,y2c,y2d,y2e⟩:=hk1.out w3 h3.out;clear hc3)
      | (go_at_call 50;refine (G3.out _ h3.out).mono ?_;clear G3;rintro e w4 ⟨rfl,hc4⟩;have h4:=hid (bl_step h3.out hc4);obtain ⟨y3a,y3b,y3c,y3d,y3e⟩:=hk1.out w4 h4.out;clear hc4))
     go_ret
     exact ⟨by simp,bl_step hB.out h4.out⟩
    | true =>
     cases B4 with
     | false =>
      go_enter Tryz.func38,Tryz.ntmps38
      go_wp2_with (first
       | (go_at_call 47;refine (G0.out _ hcells.out).mono ?_;clear G0;rintro e w1 ⟨rfl,hc1⟩;have h1:=hid (bl_step hcells.out hc1);obtain ⟨y0a,y0b,y0c,y0d,y0e⟩:=hk1.out w1 h1.out;clear hc1)
       | (go_at_call 48;refine (G1.out _ h1.out).mono ?_;clear G1;rintro e w2 ⟨rfl,hc2⟩;have h2:=hid (bl_step h1.out hc2);obtain ⟨y1a,y1b,y1c,y1d,y1e⟩:=hk1.out w2 h2.out;clear hc2)
       | (go_at_call 49;refine (GX.out _ h2.out).mono ?_;clear GX;rintro e w3 ⟨rfl,hc3⟩;have h3:=hid (bl_step h2.out hc3);obtain ⟨y2a,y2b,y2c,y2d,y2e⟩:=hk1.out w3 h3.out;clear hc3)
       | (go_at_call 50;refine (G3.out _ h3.out).mono ?_;clear G3;rintro e w4 ⟨rfl,hc4⟩;have h4:=hid (bl_step h3.out hc4);obtain ⟨y3a,y3b,y3c,y3d,y3e⟩:=hk1.out w4 h4.out;clear hc4)
       | (go_at_call 51;refine (G4.out _ h4.out).mono ?_;clear G4;rintro e w5 ⟨rfl,hc5⟩;have h5:=hid (bl_step h4.out hc5);obtain ⟨y4a,y4b,y4c,y4d,y4e⟩:=hk1.out w5 h5.out;clear hc5))
      go_ret
      exact ⟨by simp,bl_step hB.out h5.out⟩
     | true =>
      cases B5 with
      | false =>
       go_enter Tryz.func38,Tryz.ntmps38
       go_wp2_with (first
        | (go_at_call 47;refine (G0.out _ hcells.out).mono ?_;clear G0;rintro e w1 ⟨rfl,hc1⟩;have h1:=hid (bl_step hcells.out hc1);obtain ⟨y0a,y0b,y0c,y0d,y0e⟩:=hk1.out w1 h1.out;clear hc1)
        | (go_at_call 48;refine (G1.out _ h1.out).mono ?_;clear G1;rintro e w2 ⟨rfl,hc2⟩;have h2:=hid (bl_step h1.out hc2);obtain ⟨y1a,y1b,y1c,y1d,y1e⟩:=hk1.out w2 h2.out;clear hc2)
        | (go_at_call 49;refine (GX.out _ h2.out).mono ?_;clear GX;rintro e w3 ⟨rfl,hc3⟩;have h3:=hid (bl_step h2.out hc3);obtain ⟨y2a,y2b,y2c,y2d,y2e⟩:=hk1.out w3 h3.out;clear hc3)
        | (go_at_call 50;refine (G3.out _ h3.out).mono ?_;clear G3;rintro e w4 ⟨rfl,hc4⟩;have h4:=hid (bl_step h3.out hc4);obtain ⟨y3a,y3b,y3c,y3d,y3e⟩:=hk1.out w4 h4.out;clear hc4)
        | (go_at_call 51;refine (G4.out _ h4.out).mono ?_;clear G4;rintro e w5 ⟨rfl,hc5⟩;have h5:=hid (bl_step h4.out hc5);obtain ⟨y4a,y4b,y4c,y4d,y4e⟩:=hk1.out w5 h5.out;clear hc5)
        | (go_at_call 52;refine (G5.out _ h5.out).mono ?_;clear G5;rintro e w6 ⟨rfl,hc6⟩;have h6:=hid (bl_step h5.out hc6);obtain ⟨y5a,y5b,y5c,y5d,y5e⟩:=hk1.out w6 h6.out;clear hc6))
       go_ret
       exact ⟨by simp,bl_step hB.out h6.out⟩
      | true =>
       go_enter Tryz.func38,Tryz.ntmps38
       go_wp2_with (first
        | (go_at_call 47;refine (G0.out _ hcells.out).mono ?_;clear G0;rintro e w1 ⟨rfl,hc1⟩;have h1:=hid (bl_step hcells.out hc1);obtain ⟨y0a,y0b,y0c,y0d,y0e⟩:=hk1.out w1 h1.out;clear hc1)
        | (go_at_call 48;refine (G1.out _ h1.out).mono ?_;clear G1;rintro e w2 ⟨rfl,hc2⟩;have h2:=hid (bl_step h1.out hc2);obtain ⟨y1a,y1b,y1c,y1d,y1e⟩:=hk1.out w2 h2.out;clear hc2)
        | (go_at_call 49;refine (GX.out _ h2.out).mono ?_;clear GX;rintro e w3 ⟨rfl,hc3⟩;have h3:=hid (bl_step h2.out hc3);obtain ⟨y2a,y2b,y2c,y2d,y2e⟩:=hk1.out w3 h3.out;clear hc3)
        | (go_at_call 50;refine (G3.out _ h3.out).mono ?_;clear G3;rintro e w4 ⟨rfl,hc4⟩;have h4:=hid (bl_step h3.out hc4);obtain ⟨y3a,y3b,y3c,y3d,y3e⟩:=hk1.out w4 h4.out;clear hc4)
        | (go_at_call 51;refine (G4.out _ h4.out).mono ?_;clear G4;rintro e w5 ⟨rfl,hc5⟩;have h5:=hid (bl_step h4.out hc5);obtain ⟨y4a,y4b,y4c,y4d,y4e⟩:=hk1.out w5 h5.out;clear hc5)
        | (go_at_call 52;refine (G5.out _ h5.out).mono ?_;clear G5;rintro e w6 ⟨rfl,hc6⟩;have h6:=hid (bl_step h5.out hc6);obtain ⟨y5a,y5b,y5c,y5d,y5e⟩:=hk1.out w6 h6.out;clear hc6))
       go_ret
       exact ⟨by simp,bl_step hB.out h6.out⟩
end Go.Proofs.YtbpnioehmohbcaaGreat
namespace Go.Proofs.YtbpnioehmohbcaaGreat
open Go.RowKit Go.Maps Go.Sort
set_option maxRecDepth 20000 in
set_option maxHeartbeats 4000000 in
theorem hasC (g:Gm) (rv nv lv pv:Value) (w:World) (hV:GmV w rv nv lv pv g) (hb:BndG g) (hnl:∀ t ∈ g.allN,t.length ≤ 1000000) :
 Calls Tryz.prog 25 #[gmA rv nv lv pv g.start] w fun e w' => e = .returned (.bool (usB g)) ∧ Below w.heap.size w w':=by
 have GS:=hid (fun u (hu:Below w.heap.size w u) => soundP g _ _ _ _ u (hV.keep hu) hb hnl)
 obtain ⟨na,nc,rfl⟩:=hV.nonts.shape
 have hB1:=al' w (.cells #[rv,.slice na g.nonts.length nc,lv,pv,.int .i64 g.start] 27)
 have k1:=heap_new w (.cells #[rv,.slice na g.nonts.length nc,lv,pv,.int .i64 g.start] 27)
 obtain ⟨W,hW⟩:∃ x,w.alloc (.cells #[rv,.slice na g.nonts.length nc,lv,pv,.int .i64 g.start] 27) = x:=⟨_,rfl⟩
 rw [hW] at hB1 k1
 obtain ⟨y0,y1,y2,y3,y4⟩:=cells5m k1
 have GS:=hid (GS.out W hB1)
 have hB:=hid hB1
 by_cases hn:0 < g.nonts.length
 · rw [usB_snd hn]
   have hnz:(0:Int) < (g.nonts.length:Int):=by omega
   clear hV hb hnl hB1 k1 hn
   generalize soundB g = SB at *
   generalize g.nonts.length = nn at *
   generalize g.start = st at *
   go_enter Tryz.func25,Tryz.ntmps25
   go_wp2_with (go_at_call 38;refine GS.out.mono ?_;clear GS;rintro e w3 ⟨rfl,hc3⟩)
   go_ret
   exact ⟨rfl,bl_step hB.out hc3⟩
 · rw [usB_no (fun hu => hn hu.some)]
   have hnz:¬ (0:Int) < (g.nonts.length:Int):=by omega
   clear hV hb hnl hB1 k1 hn GS
   generalize g.nonts.length = nn at *
   generalize g.start = st at *
   go_enter Tryz.func25,Tryz.ntmps25
   go_wp2
   go_ret
   exact ⟨rfl,hB.out⟩
set_option maxRecDepth 20000 in
set_option maxHeartbeats 4000000 in
theorem sideYesC (g:Gm) (rv nv lv pv:Value) (p:Int) (w:World) (hV:GmV w rv nv lv pv g) (h0:-1 ≤ p) (h1:p < g.prods.length) :
 Calls Tryz.prog 26 #[gmA rv nv lv pv g.start,.int .i64 p] w fun e w' => ∃ v,e = .returned (.tuple #[v,.bool true]) ∧ Nums w' v (sidG g p) ∧ Below w.heap.size w w':=by
 obtain ⟨pa,pc,rfl⟩:=hV.prods.shape
 have hB1:=al' w (.cells #[rv,nv,lv,.slice pa g.prods.length pc,.int .i64 g.start] 27)
 have k1:=heap_new w (.cells #[rv,nv,lv,.slice pa g.prods.length pc,.int .i64 g.start] 27)
 obtain ⟨W,hW⟩:∃ x,w.alloc (.cells #[rv,nv,lv,.slice pa g.prods.length pc,.int .i64 g.start] 27) = x:=⟨_,rfl⟩
 rw [hW] at hB1 k1
 obtain ⟨y0,y1,y2,y3,y4⟩:=cells5m k1
 have hB:=hid hB1
 by_cases hp:p = -1
 · subst hp
   rw [sidG_add (by decide)]
   have hDa:=hid (Nums.of_row (Own.lit1 W g.start))
   have hBa:=hid (bl_step hB1 (al' W (.cells #[.int .i64 g.start] 3)))
   clear hV h1 hB1 k1
   generalize g.prods.length = pp at *
   generalize g.start = st at *
   go_enter Tryz.func26,Tryz.ntmps26
   go_wp2
   go_ret2
   exact ⟨_,rfl,hDa.out,hBa.out⟩
 · have hpl:p.toNat < g.prods.length:=by omega
   have hpz:((p.toNat:Nat):Int) = p:=by omega
   rw [sidG_prod (by omega) hpl]
   obtain ⟨b,o,e,-,v,z0,z1,z2,hN⟩:=(hV.keep hB1).prods.at hpl
   subst e
   have hN0:=hN
   obtain ⟨q1,q3,rfl,-⟩:=hN0
   have hN:=hid hN
   clear hV hB1 k1 z0 z2
   generalize g.prods[p.toNat].right = R at *
   generalize g.prods.length = pp at *
   generalize g.start = st at *
   obtain ⟨k,hk⟩:∃ k,p.toNat = k:=⟨_,rfl⟩
   rw [hk] at hpz hpl z1
   clear hk
   subst hpz
   have hpp:=hid hp
   clear hp
   generalize hrl:R.length = rl at *
   have hrlH:=hid hrl
   clear hrl
   have hkz:¬ (k:Int) < 0:=by omega
   have hkp:¬ (pp:Int) ≤ (k:Int):=by omega
   go_enter Tryz.func26,Tryz.ntmps26
   go_wp2
   go_ret2
   exact ⟨_,rfl,hN.out,hB.out⟩
set_option maxRecDepth 20000 in
set_option maxHeartbeats 4000000 in
theorem sideNoC (g:Gm) (rv nv lv pv:Value) (p:Int) (w:World) (hV:GmV w rv nv lv pv g) (h:¬ (-1 ≤ p ∧ p < g.prods.length)) :
 Calls Tryz.prog 26 #[gmA rv nv lv pv g.start,.int .i64 p] w fun e w' => e = .returned (.tuple #[.slice none 0 0,.bool false]) ∧ Below w.heap.size w w':=by
 obtain ⟨pa,pc,rfl⟩:=hV.prods.shape
 have hB1:=al' w (.cells #[rv,nv,lv,.slice pa g.prods.length pc,.int .i64 g.start] 27)
 have k1:=heap_new w (.cells #[rv,nv,lv,.slice pa g.prods.length pc,.int .i64 g.start] 27)
 obtain ⟨W,hW⟩:∃ x,w.alloc (.cells #[rv,nv,lv,.slice pa g.prods.length pc,.int .i64 g.start] 27) = x:=⟨_,rfl⟩
 rw [hW] at hB1 k1
 obtain ⟨y0,y1,y2,y3,y4⟩:=cells5m k1
 have hB:=hid hB1
 clear hV hB1 k1
 generalize g.prods.length = pp at *
 generalize g.start = st at *
 have hp1:¬ p = -1:=by omega
 by_cases hp:p < 0
 · clear h
   go_enter Tryz.func26,Tryz.ntmps26
   go_wp2
   go_ret2
   exact ⟨rfl,hB.out⟩
 · have hpp:(pp:Int) ≤ p:=by omega
   clear h
   go_enter Tryz.func26,Tryz.ntmps26
   go_wp2
   go_ret2
   exact ⟨rfl,hB.out⟩
end Go.Proofs.YtbpnioehmohbcaaGreat
namespace Go.Proofs.YtbpnioehmohbcaaGreat
open Go.RowKit Go.Maps Go.Sort
theorem itB_no {g:Gm} {x:It} (h:¬ (-1 ≤ x.1 ∧ x.1 < (g.prods.length:Int))):itB g x = false:=by
 rw [Bool.eq_false_iff]
 intro e
 obtain ⟨h1,h2,-⟩:=itB_iff.1 e
 exact h ⟨h1,h2⟩
theorem itB_yes {g:Gm} {x:It} (h:-1 ≤ x.1 ∧ x.1 < (g.prods.length:Int)):itB g x = (decide (0 ≤ x.2) && decide (x.2 ≤ ((sidG g x.1).length:Int))):=by
 rw [Bool.eq_iff_iff,itB_iff,Bool.and_eq_true,decide_eq_true_eq,decide_eq_true_eq]
 exact ⟨fun e => e.2.2,fun e => ⟨h.1,h.2,e⟩⟩
set_option maxRecDepth 20000 in
set_option maxHeartbeats 4000000 in
theorem isItemC (g:Gm) (rv nv lv pv:Value) (x:It) (w:World) (hV:GmV w rv nv lv pv g) :
 Calls Tryz.prog 28 #[gmA rv nv lv pv g.start,itV x] w fun e w' => e = .returned (.bool (itB g x)) ∧ Below w.heap.size w w':=by
 have hy:=itB_yes (g:=g) (x:=x)
 have hn:=itB_no (g:=g) (x:=x)
 generalize itB g x = R at *
 obtain ⟨x1,x2⟩:=x
 try dsimp only at *
 have hB1:=al' w (.cells #[rv,nv,lv,pv,.int .i64 g.start] 27)
 have k1:=heap_new w (.cells #[rv,nv,lv,pv,.int .i64 g.start] 27)
 have hB2:=bl_step hB1 (al' (w.alloc (.cells #[rv,nv,lv,pv,.int .i64 g.start] 27)) (.cells #[.int .i64 x1,.int .i64 x2] 29))
 have k2:=hs_keep k1 (al' (w.alloc (.cells #[rv,nv,lv,pv,.int .i64 g.start] 27)) (.cells #[.int .i64 x1,.int .i64 x2] 29))
 have k3:=heap_new (w.alloc (.cells #[rv,nv,lv,pv,.int .i64 g.start] 27)) (.cells #[.int .i64 x1,.int .i64 x2] 29)
 have hsz:(w.alloc (.cells #[rv,nv,lv,pv,.int .i64 g.start] 27)).heap.size = w.heap.size + 1:=World.size_alloc _ _
 rw [hsz] at k3
 obtain ⟨W,hW⟩:∃ x,(w.alloc (.cells #[rv,nv,lv,pv,.int .i64 g.start] 27)).alloc (.cells #[.int .i64 x1,.int .i64 x2] 29) = x:=⟨_,rfl⟩
 rw [hW] at hB2 k2 k3
 obtain ⟨y0,y1,y2,y3,y4⟩:=cells5m k2
 have hk3:=hid (fun u (hu:Below W.heap.size W u) => cells2h (hs_keep k3 hu))
 obtain ⟨z0,z1⟩:=cells2h k3
 have hB:=hid hB2
 by_cases hr:-1 ≤ x1 ∧ x1 < (g.prods.length:Int)
 · have GS:=hid (sideYesC g _ _ _ _ x1 W (hV.keep hB2) hr.1 hr.2)
   have hy:=hy hr
   clear hV hB1 hB2 k1 k2 k3 hsz hr hn
   generalize sidG g x1 = S at *
   generalize g.start = st at *
   have hSk:=hid (fun u v (hN:Nums u v S) => by
    obtain ⟨a,c,e,-⟩:=hN
    exact (⟨a,c,e⟩:∃ a c,v = .slice a S.length c))
   subst hy
   generalize S.length = sl at *
   by_cases h0:0 ≤ x2
   · rw [decide_eq_true h0,Bool.true_and]
     go_enter Tryz.func28,Tryz.ntmps28
     go_wp2_with (go_at_call 26;refine GS.out.mono ?_;clear GS;rintro e w3 ⟨v3,rfl,hO3,hc3⟩;obtain ⟨a3,c3,rfl⟩:=hSk.out _ _ hO3;clear hO3;have hc3:=hid hc3;clear y0 y1 y2 y3 y4 z0 z1;obtain ⟨z0,z1⟩:=hk3.out _ hc3.out)
     go_ret
     exact ⟨rfl,bl_step hB.out hc3.out⟩
   · rw [decide_eq_false h0,Bool.false_and]
     go_enter Tryz.func28,Tryz.ntmps28
     go_wp2_with (go_at_call 26;refine GS.out.mono ?_;clear GS;rintro e w3 ⟨v3,rfl,hO3,hc3⟩;obtain ⟨a3,c3,rfl⟩:=hSk.out _ _ hO3;clear hO3;have hc3:=hid hc3;clear y0 y1 y2 y3 y4 z0 z1;obtain ⟨z0,z1⟩:=hk3.out _ hc3.out)
     go_ret
     exact ⟨rfl,bl_step hB.out hc3.out⟩
 · obtain rfl:=hn hr
   have GS:=hid (sideNoC g _ _ _ _ x1 W (hV.keep hB2) hr)
   clear hV hB1 hB2 k1 k2 k3 hsz hr hy hn
   generalize g.start = st at *
   go_enter Tryz.func28,Tryz.ntmps28
   go_wp2_with (go_at_call 26;refine GS.out.mono ?_;clear GS;rintro e w3 ⟨rfl,hc3⟩;have hc3:=hid hc3;clear y0 y1 y2 y3 y4 z0 z1;obtain ⟨z0,z1⟩:=hk3.out _ hc3.out)
   go_ret
   exact ⟨rfl,bl_step hB.out hc3.out⟩
set_option maxRecDepth 20000 in
set_option maxHeartbeats 4000000 in
theorem behindC (g:Gm) (rv nv lv pv:Value) (x:It) (w:World) (hV:GmV w rv nv lv pv g) (hx:itB g x = true) :
 Calls Tryz.prog 29 #[gmA rv nv lv pv g.start,itV x] w fun e w' => e = .returned (.int .i64 (nxtG g x)) ∧ Below w.heap.size w w':=by
 obtain ⟨i1,i2,i3,i4⟩:=itB_iff.1 hx
 have he:=nxtG_end (g:=g) (x:=x)
 have ha:=nxtG_at (g:=g) (x:=x)
 generalize nxtG g x = N at *
 obtain ⟨x1,x2⟩:=x
 try dsimp only at *
 have hB1:=al' w (.cells #[rv,nv,lv,pv,.int .i64 g.start] 27)
 have k1:=heap_new w (.cells #[rv,nv,lv,pv,.int .i64 g.start] 27)
 have hB2:=bl_step hB1 (al' (w.alloc (.cells #[rv,nv,lv,pv,.int .i64 g.start] 27)) (.cells #[.int .i64 x1,.int .i64 x2] 29))
 have k2:=hs_keep k1 (al' (w.alloc (.cells #[rv,nv,lv,pv,.int .i64 g.start] 27)) (.cells #[.int .i64 x1,.int .i64 x2] 29))
 have k3:=heap_new (w.alloc (.cells #[rv,nv,lv,pv,.int .i64 g.start] 27)) (.cells #[.int .i64 x1,.int .i64 x2] 29)
 have hsz:(w.alloc (.cells #[rv,nv,lv,pv,.int .i64 g.start] 27)).heap.size = w.heap.size + 1:=World.size_alloc _ _
 rw [hsz] at k3
 obtain ⟨W,hW⟩:∃ x,(w.alloc (.cells #[rv,nv,lv,pv,.int .i64 g.start] 27)).alloc (.cells #[.int .i64 x1,.int .i64 x2] 29) = x:=⟨_,rfl⟩
 rw [hW] at hB2 k2 k3
 obtain ⟨y0,y1,y2,y3,y4⟩:=cells5m k2
 have hk3:=hid (fun u (hu:Below W.heap.size W u) => cells2h (hs_keep k3 hu))
 obtain ⟨z0,z1⟩:=cells2h k3
 have GS:=hid (sideYesC g _ _ _ _ x1 W (hV.keep hB2) i1 i2)
 have hB:=hid hB2
 clear hV hx hB1 hB2 k1 k2 k3 i1 i2 hsz
 generalize sidG g x1 = S at *
 generalize g.start = st at *
 by_cases hlt:x2.toNat < S.length
 · have hN:=ha hlt
   obtain ⟨k,hk⟩:∃ k:Nat,x2 = (k:Int):=⟨x2.toNat,by omega⟩
   subst hk
   have hlt':k < S.length:=hlt
   have hN':N = S[k]:=hN
   have hltz:¬ (k:Int) = (S.length:Int):=by omega
   have hSk:=hid (fun u v (hO:Nums u v S) => by
    obtain ⟨b,o,cp,e,h1,h2,h3⟩:=hO.at (by omega)
    exact (⟨b,o,cp,e,by rw [hN'];exact h3 k hlt'⟩:∃ b o cp,v = .slice (some ⟨b,o,none⟩) S.length cp ∧ u.cell? ⟨b,o + k,none⟩ = some (.int .i64 N)))
   clear he ha hN hN' hlt i3 i4
   generalize S.length = sl at *
   have hne:=hid hltz
   have hd:decide ((k:Int) = (sl:Int)) = false:=decide_eq_false hltz
   clear hltz
   go_enter Tryz.func29,Tryz.ntmps29
   go_wp2_with (go_at_call 26;refine GS.out.mono ?_;clear GS;rintro e w3 ⟨v3,rfl,hO3,hc3⟩;obtain ⟨b3,o3,c3,rfl,hs3⟩:=hSk.out _ _ hO3;clear hO3;have hc3:=hid hc3;clear y0 y1 y2 y3 y4 z0 z1;obtain ⟨z0,z1⟩:=hk3.out _ hc3.out)
   go_ret
   exact ⟨rfl,bl_step hB.out hc3.out⟩
 · obtain rfl:=he hlt
   obtain rfl:x2 = (S.length:Int):=by omega
   have hSk:=hid (fun u v (hO:Nums u v S) => by
    obtain ⟨a,c,e,-⟩:=hO
    exact (⟨a,c,e⟩:∃ a c,v = .slice a S.length c))
   clear he ha i3 i4 hlt
   generalize S.length = sl at *
   go_enter Tryz.func29,Tryz.ntmps29
   go_wp2_with (go_at_call 26;refine GS.out.mono ?_;clear GS;rintro e w3 ⟨v3,rfl,hO3,hc3⟩;obtain ⟨a3,c3,rfl⟩:=hSk.out _ _ hO3;clear hO3;have hc3:=hid hc3;clear y0 y1 y2 y3 y4 z0 z1;obtain ⟨z0,z1⟩:=hk3.out _ hc3.out)
   go_ret
   exact ⟨rfl,bl_step hB.out hc3.out⟩
end Go.Proofs.YtbpnioehmohbcaaGreat
namespace Go.Proofs.YtbpnioehmohbcaaGreat
def brK (g:Gm) (s:Int) (n:Nat):List It:=((List.range n).filter fun k => decide ((g.prods.getD k ⟨0,[],0⟩).left = s)).map fun k:Nat => ((k:Int),(0:Int))
def brG (g:Gm) (s:Int):List It:=brK g s g.prods.length
theorem brK_zero (g:Gm) (s:Int):brK g s 0 = []:=rfl
theorem brK_succ {g:Gm} {n:Nat} (h:n < g.prods.length) (s:Int):brK g s (n + 1) = if g.prods[n].left = s then brK g s n ++ [((n:Int),0)] else brK g s n:=by
 unfold brK
 rw [List.range_succ,List.filter_append,List.map_append]
 have e:(g.prods.getD n ⟨0,[],0⟩) = g.prods[n]:=by rw [List.getD_eq_getElem?_getD,List.getElem?_eq_getElem h,Option.getD_some]
 by_cases hs:g.prods[n].left = s
 · rw [if_pos hs,List.filter_cons_of_pos (by rw [e];exact decide_eq_true hs)];rfl
 · rw [if_neg hs,List.filter_cons_of_neg (by rw [e];simpa using hs)]
   exact List.append_nil _
theorem brG_mem {g:Gm} {s:Int} {x:It}:x ∈ brG g s ↔ ∃ k,∃ hk:k < g.prods.length,g.prods[k].left = s ∧ x = ((k:Int),0):=by
 unfold brG brK
 rw [List.mem_map]
 constructor
 · rintro ⟨k,hk,rfl⟩
   rw [List.mem_filter,List.mem_range,decide_eq_true_eq] at hk
   refine ⟨k,hk.1,?_,rfl⟩
   have h2:=hk.2
   rwa [List.getD_eq_getElem?_getD,List.getElem?_eq_getElem hk.1,Option.getD_some] at h2
 · rintro ⟨k,hk,h1,rfl⟩
   refine ⟨k,List.mem_filter.2 ⟨List.mem_range.2 hk,?_⟩,rfl⟩
   rw [decide_eq_true_eq,List.getD_eq_getElem?_getD,List.getElem?_eq_getElem hk,Option.getD_some]
   exact h1
theorem brK_len (g:Gm) (s:Int) (n:Nat):(brK g s n).length ≤ n:=by
 unfold brK
 rw [List.length_map]
 exact Nat.le_trans (List.length_filter_le _ _) (by rw [List.length_range];exact Nat.le_refl _)
theorem br_step (g:Gm) {n:Nat} (h:n < g.prods.length):∀ M:List Int,(M.flatMap fun s => brK g s (n + 1)).length = (M.flatMap fun s => brK g s n).length + M.count g.prods[n].left
 | [] => rfl
 | s :: M => by
  have ih:=br_step g h M
  rw [List.flatMap_cons,List.flatMap_cons,List.length_append,List.length_append,ih,brK_succ h,List.count_cons]
  by_cases hs:g.prods[n].left = s
  · rw [if_pos hs,if_pos (by simp [hs]),List.length_append]
    simp only [List.length_cons,List.length_nil]
    omega
  · rw [if_neg hs,if_neg (by simpa using fun e:s = _ => hs e.symm)]
    omega
theorem br_all (g:Gm) {M:List Int} (hM:M.Nodup):∀ n,n ≤ g.prods.length → (M.flatMap fun s => brK g s n).length ≤ n
 | 0,_ => by
  have:∀ M:List Int,(M.flatMap fun s => brK g s 0).length = 0:=fun M => by
   induction M with
   | nil => rfl
   | cons s M ih => rw [List.flatMap_cons,List.length_append,ih];rfl
  rw [this];exact Nat.le_refl _
 | n + 1,h => by
  rw [br_step g (by omega)]
  have h1:=br_all g hM n (by omega)
  have h2:=List.nodup_iff_count.1 hM (g.prods[n]'(by omega)).left
  omega
structure ClI (g:Gm) (b A:List It) (n:Nat) (M:List Int):Prop where
 all:A = b ++ M.flatMap (brG g)
 nd:M.Nodup
 le:n ≤ A.length
 few:M.length ≤ n
 met:∀ i (h:i < A.length),i < n → nxtG g A[i] ∈ M
 clo:∀ x ∈ A,CloG g b x
theorem ClI.start (g:Gm) (b:List It):ClI g b b 0 [] where
 all:=(List.append_nil b).symm
 nd:=List.nodup_nil
 le:=Nat.zero_le _
 few:=Nat.le_refl _
 met _ _ h:=absurd h (Nat.not_lt_zero _)
 clo _ hx:=.own hx
theorem ClI.skip {g:Gm} {b A:List It} {n:Nat} {M:List Int} (h:ClI g b A n M) (hn:n < A.length) (hm:nxtG g A[n] ∈ M):ClI g b A (n + 1) M where
 all:=h.all
 nd:=h.nd
 le:=hn
 few:=Nat.le_succ_of_le h.few
 met i hi hl:=by
  by_cases e:i = n
  · subst e;exact hm
  · exact h.met i hi (by omega)
 clo:=h.clo
theorem ClI.more {g:Gm} {b A:List It} {n:Nat} {M:List Int} (h:ClI g b A n M) (hn:n < A.length) (hm:¬ nxtG g A[n] ∈ M):ClI g b (A ++ brG g (nxtG g A[n])) (n + 1) (M ++ [nxtG g A[n]]) where
 all:=by
  have e:=h.all
  rw [List.flatMap_append,List.flatMap_singleton,← List.append_assoc,← e]
 nd:=by
  rw [List.nodup_append]
  refine ⟨h.nd,by simp,fun x hx y hy => ?_⟩
  rw [List.mem_singleton] at hy
  subst hy
  exact fun e => hm (e ▸ hx)
 le:=by rw [List.length_append];omega
 few:=by rw [List.length_append];exact Nat.succ_le_succ h.few
 met i hi hl:=by
  rw [List.mem_append,List.mem_singleton]
  rw [List.getElem_append_left (by omega)]
  by_cases e:i = n
  · subst e;exact .inr rfl
  · exact .inl (h.met i (by omega) (by omega))
 clo x hx:=by
  rcases List.mem_append.1 hx with hx | hx
  · exact h.clo x hx
  · obtain ⟨k,hk,h1,rfl⟩:=brG_mem.1 hx
    exact .new hk (h.clo _ (List.getElem_mem hn)) h1.symm
theorem ClI.len {g:Gm} {b A:List It} {n:Nat} {M:List Int} (h:ClI g b A n M):A.length ≤ b.length + g.prods.length:=by
 have h1:=br_all g h.nd _ (Nat.le_refl _)
 have e:=congrArg List.length h.all
 rw [List.length_append] at e
 have e2:(M.flatMap (brG g)).length = (M.flatMap fun s => brK g s g.prods.length).length:=rfl
 omega
theorem ClI.done {g:Gm} {b A:List It} {M:List Int} (h:ClI g b A A.length M) (x:It):x ∈ A ↔ CloG g b x:=by
 refine ⟨h.clo x,fun hx => ?_⟩
 induction hx with
 | own hx => rw [h.all];exact List.mem_append_left _ hx
 | @new y k hk _ he ih =>
  obtain ⟨i,hi,rfl⟩:=List.getElem_of_mem ih
  have hm:=h.met i hi hi
  rw [h.all]
  exact List.mem_append_right _ (List.mem_flatMap.2 ⟨_,hm,brG_mem.2 ⟨k,hk,he.symm,rfl⟩⟩)
theorem up_clo {g:Gm} {l b m:List It} (h:∀ x ∈ l,itB g x = true) (hb:∀ x,x ∈ b ↔ x ∈ l) (hm:m.Pairwise ltI) (hx:∀ x,x ∈ m ↔ CloG g b x):m = cloL g l:=
 upI_uniq hm (cloL_up g l) fun x => by
  rw [hx,cloL_mem h]
  exact ⟨fun hc => hc.mono fun y hy => .own ((hb y).1 hy),fun hc => hc.mono fun y hy => .own ((hb y).2 hy)⟩
def mv0 (g:Gm) (l:List It) (sym:Int):List It:=(l.filter fun x => decide (nxtG g x = sym)).map fun x => (x.1,x.2 + 1)
theorem mv0_succ {g:Gm} {l:List It} {k:Nat} (h:k < l.length) (sym:Int):mv0 g (l.take (k + 1)) sym = if nxtG g l[k] = sym then mv0 g (l.take k) sym ++ [(l[k].1,l[k].2 + 1)] else mv0 g (l.take k) sym:=by
 unfold mv0
 rw [List.take_succ_eq_append_getElem h,List.filter_append,List.map_append]
 by_cases hs:nxtG g l[k] = sym
 · rw [if_pos hs,List.filter_cons_of_pos (by simpa using hs)];rfl
 · rw [if_neg hs,List.filter_cons_of_neg (by simpa using hs)]
   exact List.append_nil _
theorem mv0_len (g:Gm) (l:List It) (sym:Int):(mv0 g l sym).length ≤ l.length:=by
 unfold mv0
 rw [List.length_map]
 exact List.length_filter_le _ _
theorem nxtG_nonneg {g:Gm} (hg:UsG g) (x:It):0 ≤ nxtG g x:=by
 unfold nxtG
 rw [List.getD_eq_getElem?_getD]
 cases e:(sidG g x.1)[x.2.toNat]? with
 | none => exact Int.le_refl _
 | some s =>
  rw [Option.getD_some]
  have hs:=List.mem_of_getElem? e
  unfold sidG at hs
  by_cases h:x.1 < 0
  · rw [if_pos h,List.mem_singleton] at hs
    have:=(hg.snd.start hg.some).1
    omega
  · rw [if_neg h,List.getD_eq_getElem?_getD] at hs
    cases e2:g.prods[x.1.toNat]? with
    | none => rw [e2,Option.getD_none] at hs;cases hs
    | some p =>
     rw [e2,Option.getD_some] at hs
     have:=hg.snd.prod p (List.mem_of_getElem? e2)
     unfold pdB at this
     simp only [Bool.and_eq_true,decide_eq_true_eq,List.all_eq_true] at this
     have:=(this.2 s hs).1
     omega
open Classical in
theorem gotL_zero (g:Gm) (l:List It):gotL g l 0 = []:=by
 unfold gotL
 rw [List.filter_eq_nil_iff]
 intro x _ h
 have:=(of_decide_eq_true h).1
 omega
theorem mv0_got {g:Gm} {l:List It} (h:RgtI g l) {sym:Int} (hs:sym ≠ 0):mv0 g (cloL g l) sym = gotL g l sym:=by
 have e:mv0 g (cloL g l) sym = mvL g (cloL g l) sym:=by
  unfold mv0 mvL
  congr 1
  refine List.filter_congr fun x _ => ?_
  have:=nxtG_nonneg h.us x
  by_cases hp:0 < sym
  · rw [decide_eq_true hp,Bool.true_and]
  · rw [decide_eq_false hp,Bool.false_and,decide_eq_false (by omega)]
 rw [e]
 refine upI_uniq ?_ (gotL_up g l sym) fun x => (gotL_mem h.all).symm
 unfold mvL
 rw [List.pairwise_map]
 refine ((cloL_up g l).filter _).imp fun {x y} hxy => ?_
 unfold ltI at hxy ⊢
 show x.1 < y.1 ∨ x.1 = y.1 ∧ x.2 + 1 < y.2 + 1
 omega
end Go.Proofs.YtbpnioehmohbcaaGreat
