/- Package check: Sound. Package first: Vanish. Package first: know. topiarylaw15.long. -/
import Derived.Test.YtfhokapfkclckaaGreatK30
import Derived.Test.YtfhokapfkclckaaGreatK28
import Derived.Test.YtfhokapfkclckaaGreatK22
import Derived.Test.YtfhokapfkclckaaGreatK15
namespace Go.Proofs.YtfhokapfkclckaaGreat
open Go.RowKit Go.Maps Go.Sort
theorem sound_parts (g:Gm):SndG g ↔ sizeB g = true ∧ (g.rules.all fun r => rightB r.re) = true ∧ nms2B g = true ∧ levsB g = true ∧ startB g = true ∧ g.prods.all (pdB g) = true:=by
 have hlv:levsB g = true ↔ LevOK g:=⟨fun h => Classical.byContradiction fun hn => (by rw [levsB_no hn] at h;cases h),levsB_yes⟩
 rw [hlv]
 unfold sizeB nms2B
 simp only [Bool.and_eq_true,decide_eq_true_eq,List.all_eq_true]
 constructor
 · intro h
   refine ⟨⟨⟨h.rules,h.nonts⟩,h.prods⟩,h.right,⟨h.named,h.once⟩,⟨h.levels,h.lev⟩,?_,h.prod⟩
   unfold startB
   split
   · rename_i h0
     exact decide_eq_true (h.none h0)
   · rename_i h0
     have:=h.start (by omega)
     unfold ntmB
     rw [decide_eq_true this.1,decide_eq_true this.2]
     rfl
 · rintro ⟨⟨⟨h1,h2⟩,h3⟩,h4,⟨h5,h6⟩,h7,h8,h9⟩
   unfold startB at h8
   refine ⟨h1,h2,h3,h4,h5,h6,h7.len,h7.lev,fun h0 => ?_,fun h0 => ?_,h9⟩
   · rw [if_pos h0] at h8
     exact of_decide_eq_true h8
   · rw [if_neg (by omega)] at h8
     unfold ntmB at h8
     rw [Bool.and_eq_true] at h8
     exact ⟨of_decide_eq_true h8.1,of_decide_eq_true h8.2⟩
theorem soundB_is (g:Gm):soundB g = (sizeB g && (g.rules.all fun r => rightB r.re) && nms2B g && levsB g && startB g && g.prods.all (pdB g)):=by
 by_cases h:SndG g
 · rw [soundB_yes h]
   obtain ⟨h1,h2,h3,h4,h5,h6⟩:=(sound_parts g).1 h
   rw [h1,h2,h3,h4,h5,h6]
   rfl
 · rw [soundB_no h]
   symm
   refine Bool.eq_false_iff.2 fun h9 => h ((sound_parts g).2 ?_)
   simp only [Bool.and_eq_true] at h9
   exact ⟨h9.1.1.1.1.1,h9.1.1.1.1.2,h9.1.1.1.2,h9.1.1.2,h9.1.2,h9.2⟩
set_option maxRecDepth 20000 in
set_option maxHeartbeats 16000000 in
theorem soundP (g:Gm) (rv nv lv pv:Value) (w:World) (hV:GmV w rv nv lv pv g) (hb:BndG g) (hnl:∀ t ∈ g.allN,t.length ≤ 1000000) :
 Calls Tryz.prog 23 #[gmA rv nv lv pv g.start] w fun e w' => e = .returned (.bool (soundB g)) ∧ Below w.heap.size w w':=by
 have hB1:=al' w (.cells #[rv,nv,lv,pv,.int .i64 g.start] 27)
 have k1:=heap_new w (.cells #[rv,nv,lv,pv,.int .i64 g.start] 27)
 obtain ⟨W,hW⟩:∃ x,w.alloc (.cells #[rv,nv,lv,pv,.int .i64 g.start] 27) = x:=⟨_,rfl⟩
 rw [hW] at hB1 k1
 have hB:=hid hB1
 have hk1:=hid (fun u (hu:Below W.heap.size W u) => cells5m (hs_keep k1 hu))
 have hr:=hb.rules
 have hn:=hb.nonts
 have hlv:=hb.levels
 have hpr:=hb.prods
 have G0:=hid (fun u (hu:Below W.heap.size W u) => sizeC rv nv lv pv g g.start u (hV.keep (bl_step hB1 hu)))
 have G1:=hid (fun u (hu:Below W.heap.size W u) => rulesC rv nv lv pv g g.start u (hV.keep (bl_step hB1 hu)) hr)
 have G2:Hid (sizeB g = true → ∀ u (_:Below W.heap.size W u),Calls Tryz.prog 44 #[gmA rv nv lv pv g.start] u fun e w' => e = .returned (.bool (nms2B g)) ∧ Below u.heap.size u w'):=hid (fun hs u hu => by
  unfold sizeB at hs
  simp only [Bool.and_eq_true,decide_eq_true_eq] at hs
  exact namesP rv nv lv pv g g.start u (hV.keep (bl_step hB1 hu)) (by omega) (by omega) hnl)
 have G3:=hid (fun u (hu:Below W.heap.size W u) => levelsC rv nv lv pv g g.start u (hV.keep (bl_step hB1 hu)) hr hlv)
 have G4:=hid (fun u (hu:Below W.heap.size W u) => startK3 rv nv lv pv g u (hV.keep (bl_step hB1 hu)) hr hn)
 have G5:=hid (fun u (hu:Below W.heap.size W u) => prodsC rv nv lv pv g g.start u (hV.keep (bl_step hB1 hu)) hb hr hn hpr)
 obtain ⟨x0,x1,x2,x3,x4⟩:=hk1.out W (Below.refl _ _)
 rw [soundB_is]
 have hcells:Hid (Below W.heap.size W W):=hid (Below.refl _ _)
 clear hV hB1 k1 hb hnl hr hn hlv hpr
 generalize g.start = st at *
 generalize sizeB g = B0 at *
 generalize (g.rules.all fun r => rightB r.re) = B1 at *
 generalize nms2B g = B2 at *
 generalize levsB g = B3 at *
 generalize startB g = B4 at *
 generalize g.prods.all (pdB g) = B5 at *
 cases B0 with
 | false =>
  go_enter Tryz.func23,Tryz.ntmps23
  go_wp2_with (first
   | (go_at_call 42;refine (G0.out _ hcells.out).mono ?_;clear G0;rintro e w1 ⟨rfl,hc1⟩;have h1:=hid (bl_step hcells.out hc1);obtain ⟨y0a,y0b,y0c,y0d,y0e⟩:=hk1.out w1 h1.out;clear hc1))
  go_ret
  exact ⟨by simp,bl_step hB.out h1.out⟩
 | true =>
  have GX:=hid (fun u (hu:Below W.heap.size W u) => G2.out rfl u hu)
  clear G2
  cases B1 with
  | false =>
   go_enter Tryz.func23,Tryz.ntmps23
   go_wp2_with (first
    | (go_at_call 42;refine (G0.out _ hcells.out).mono ?_;clear G0;rintro e w1 ⟨rfl,hc1⟩;have h1:=hid (bl_step hcells.out hc1);obtain ⟨y0a,y0b,y0c,y0d,y0e⟩:=hk1.out w1 h1.out;clear hc1)
    | (go_at_call 43;refine (G1.out _ h1.out).mono ?_;clear G1;rintro e w2 ⟨rfl,hc2⟩;have h2:=hid (bl_step h1.out hc2);obtain ⟨y1a,y1b,y1c,y1d,y1e⟩:=hk1.out w2 h2.out;clear hc2))
   go_ret
   exact ⟨by simp,bl_step hB.out h2.out⟩
  | true =>
   cases B2 with
   | false =>
    go_enter Tryz.func23,Tryz.ntmps23
    go_wp2_with (first
     | (go_at_call 42;refine (G0.out _ hcells.out).mono ?_;clear G0;rintro e w1 ⟨rfl,hc1⟩;have h1:=hid (bl_step hcells.out hc1);obtain ⟨y0a,y0b,y0c,y0d,y0e⟩:=hk1.out w1 h1.out;clear hc1)
     | (go_at_call 43;refine (G1.out _ h1.out).mono ?_;clear G1;rintro e w2 ⟨rfl,hc2⟩;have h2:=hid (bl_step h1.out hc2);obtain ⟨y1a,y1b,y1c,y1d,y1e⟩:=hk1.out w2 h2.out;clear hc2)
     | (go_at_call 44;refine (GX.out _ h2.out).mono ?_;clear GX;rintro e w3 ⟨rfl,hc3⟩;have h3:=hid (bl_step h2.out hc3);obtain ⟨y2a,y2b,y2c,y2d,y2e⟩:=hk1.out w3 h3.out;clear hc3))
    go_ret
    exact ⟨by simp,bl_step hB.out h3.out⟩
   | true =>
    cases B3 with
    | false =>
     go_enter Tryz.func23,Tryz.ntmps23
     go_wp2_with (first
      | (go_at_call 42;refine (G0.out _ hcells.out).mono ?_;clear G0;rintro e w1 ⟨rfl,hc1⟩;have h1:=hid (bl_step hcells.out hc1);obtain ⟨y0a,y0b,y0c,y0d,y0e⟩:=hk1.out w1 h1.out;clear hc1)
      | (go_at_call 43;refine (G1.out _ h1.out).mono ?_;clear G1;rintro e w2 ⟨rfl,hc2⟩;have h2:=hid (bl_step h1.out hc2);obtain ⟨y1a,y1b,y1c,y1d,y1e⟩:=hk1.out w2 h2.out;clear hc2)
      | (go_at_call 44;refine (GX.out _ h2.out).mono ?_;clear GX;rintro e w3 ⟨rfl,hc3⟩;have h3:=hid (bl_step h2.out hc3);obtain ⟨y2a,y2b,y2c,y2d,y2e⟩:=hk1.out w3 h3.out;clear hc3)
      | (go_at_call 45;refine (G3.out _ h3.out).mono ?_;clear G3;rintro e w4 ⟨rfl,hc4⟩;have h4:=hid (bl_step h3.out hc4);obtain ⟨y3a,y3b,y3c,y3d,y3e⟩:=hk1.out w4 h4.out;clear hc4))
     go_ret
     exact ⟨by simp,bl_step hB.out h4.out⟩
    | true =>
     cases B4 with
     | false =>
      go_enter Tryz.func23,Tryz.ntmps23
      go_wp2_with (first
       | (go_at_call 42;refine (G0.out _ hcells.out).mono ?_;clear G0;rintro e w1 ⟨rfl,hc1⟩;have h1:=hid (bl_step hcells.out hc1);obtain ⟨y0a,y0b,y0c,y0d,y0e⟩:=hk1.out w1 h1.out;clear hc1)
       | (go_at_call 43;refine (G1.out _ h1.out).mono ?_;clear G1;rintro e w2 ⟨rfl,hc2⟩;have h2:=hid (bl_step h1.out hc2);obtain ⟨y1a,y1b,y1c,y1d,y1e⟩:=hk1.out w2 h2.out;clear hc2)
       | (go_at_call 44;refine (GX.out _ h2.out).mono ?_;clear GX;rintro e w3 ⟨rfl,hc3⟩;have h3:=hid (bl_step h2.out hc3);obtain ⟨y2a,y2b,y2c,y2d,y2e⟩:=hk1.out w3 h3.out;clear hc3)
       | (go_at_call 45;refine (G3.out _ h3.out).mono ?_;clear G3;rintro e w4 ⟨rfl,hc4⟩;have h4:=hid (bl_step h3.out hc4);obtain ⟨y3a,y3b,y3c,y3d,y3e⟩:=hk1.out w4 h4.out;clear hc4)
       | (go_at_call 46;refine (G4.out _ h4.out).mono ?_;clear G4;rintro e w5 ⟨rfl,hc5⟩;have h5:=hid (bl_step h4.out hc5);obtain ⟨y4a,y4b,y4c,y4d,y4e⟩:=hk1.out w5 h5.out;clear hc5))
      go_ret
      exact ⟨by simp,bl_step hB.out h5.out⟩
     | true =>
      cases B5 with
      | false =>
       go_enter Tryz.func23,Tryz.ntmps23
       go_wp2_with (first
        | (go_at_call 42;refine (G0.out _ hcells.out).mono ?_;clear G0;rintro e w1 ⟨rfl,hc1⟩;have h1:=hid (bl_step hcells.out hc1);obtain ⟨y0a,y0b,y0c,y0d,y0e⟩:=hk1.out w1 h1.out;clear hc1)
        | (go_at_call 43;refine (G1.out _ h1.out).mono ?_;clear G1;rintro e w2 ⟨rfl,hc2⟩;have h2:=hid (bl_step h1.out hc2);obtain ⟨y1a,y1b,y1c,y1d,y1e⟩:=hk1.out w2 h2.out;clear hc2)
        | (go_at_call 44;refine (GX.out _ h2.out).mono ?_;clear GX;rintro e w3 ⟨rfl,hc3⟩;have h3:=hid (bl_step h2.out hc3);obtain ⟨y2a,y2b,y2c,y2d,y2e⟩:=hk1.out w3 h3.out;clear hc3)
        | (go_at_call 45;refine (G3.out _ h3.out).mono ?_;clear G3;rintro e w4 ⟨rfl,hc4⟩;have h4:=hid (bl_step h3.out hc4);obtain ⟨y3a,y3b,y3c,y3d,y3e⟩:=hk1.out w4 h4.out;clear hc4)
        | (go_at_call 46;refine (G4.out _ h4.out).mono ?_;clear G4;rintro e w5 ⟨rfl,hc5⟩;have h5:=hid (bl_step h4.out hc5);obtain ⟨y4a,y4b,y4c,y4d,y4e⟩:=hk1.out w5 h5.out;clear hc5)
        | (go_at_call 47;refine (G5.out _ h5.out).mono ?_;clear G5;rintro e w6 ⟨rfl,hc6⟩;have h6:=hid (bl_step h5.out hc6);obtain ⟨y5a,y5b,y5c,y5d,y5e⟩:=hk1.out w6 h6.out;clear hc6))
       go_ret
       exact ⟨by simp,bl_step hB.out h6.out⟩
      | true =>
       go_enter Tryz.func23,Tryz.ntmps23
       go_wp2_with (first
        | (go_at_call 42;refine (G0.out _ hcells.out).mono ?_;clear G0;rintro e w1 ⟨rfl,hc1⟩;have h1:=hid (bl_step hcells.out hc1);obtain ⟨y0a,y0b,y0c,y0d,y0e⟩:=hk1.out w1 h1.out;clear hc1)
        | (go_at_call 43;refine (G1.out _ h1.out).mono ?_;clear G1;rintro e w2 ⟨rfl,hc2⟩;have h2:=hid (bl_step h1.out hc2);obtain ⟨y1a,y1b,y1c,y1d,y1e⟩:=hk1.out w2 h2.out;clear hc2)
        | (go_at_call 44;refine (GX.out _ h2.out).mono ?_;clear GX;rintro e w3 ⟨rfl,hc3⟩;have h3:=hid (bl_step h2.out hc3);obtain ⟨y2a,y2b,y2c,y2d,y2e⟩:=hk1.out w3 h3.out;clear hc3)
        | (go_at_call 45;refine (G3.out _ h3.out).mono ?_;clear G3;rintro e w4 ⟨rfl,hc4⟩;have h4:=hid (bl_step h3.out hc4);obtain ⟨y3a,y3b,y3c,y3d,y3e⟩:=hk1.out w4 h4.out;clear hc4)
        | (go_at_call 46;refine (G4.out _ h4.out).mono ?_;clear G4;rintro e w5 ⟨rfl,hc5⟩;have h5:=hid (bl_step h4.out hc5);obtain ⟨y4a,y4b,y4c,y4d,y4e⟩:=hk1.out w5 h5.out;clear hc5)
        | (go_at_call 47;refine (G5.out _ h5.out).mono ?_;clear G5;rintro e w6 ⟨rfl,hc6⟩;have h6:=hid (bl_step h5.out hc6);obtain ⟨y5a,y5b,y5c,y5d,y5e⟩:=hk1.out w6 h6.out;clear hc6))
       go_ret
       exact ⟨by simp,bl_step hB.out h6.out⟩
def vmL (null:List Int) (k:Nat):List Int:=((List.range k).map fun (i:Nat) => (i:Int)).filter fun x => null.contains x
theorem vmL_succ (null:List Int) (k:Nat):vmL null (k + 1) = vmL null k ++ if null.contains (k:Int) = true then [(k:Int)] else []:=by
 unfold vmL
 rw [List.range_succ,List.map_append,List.filter_append]
 congr 1
 show List.filter (fun x => null.contains x) [(k:Int)] = _
 rw [List.filter_cons]
 rfl
theorem vmL_len (null:List Int) (k:Nat):(vmL null k).length ≤ k:=by
 unfold vmL
 exact Nat.le_trans (List.length_filter_le _ _) (by simp)
theorem vmL_is {null:List Int} {N:Nat} (hu:Up null) (hr:∀ n ∈ null,0 ≤ n ∧ n.toNat < N):vmL null N = null:=by
 refine up_uniq ?_ hu (fun x => ?_)
 · unfold vmL Up
   refine List.Pairwise.filter _ ?_
   rw [List.pairwise_map]
   exact (List.pairwise_lt_range (n:=N)).imp (fun h => by omega)
 · unfold vmL
   rw [List.mem_filter,List.contains_iff_mem,List.mem_map]
   refine ⟨fun h => h.2,fun h => ⟨⟨x.toNat,?_,?_⟩,h⟩⟩
   · have:=hr x h
     exact List.mem_range.2 this.2
   · have:=hr x h
     omega
set_option maxRecDepth 20000 in
set_option maxHeartbeats 16000000 in
theorem vanishP (g:Gm) (rv nv lv pv:Value) (w:World) (hV:GmV w rv nv lv pv g) (hb:BndG g) (hnl:∀ t ∈ g.allN,t.length ≤ 1000000) :
 Calls Tryz.prog 10 #[gmA rv nv lv pv g.start] w fun e w' => ∃ v,e = .returned v ∧ (SndG g → Nums w' v (nulL g)) ∧ (¬ SndG g → Nums w' v []) ∧ Below w.heap.size w w':=by
 have hB1:=al' w (.cells #[rv,nv,lv,pv,.int .i64 g.start] 27)
 have k1:=heap_new w (.cells #[rv,nv,lv,pv,.int .i64 g.start] 27)
 obtain ⟨W,hW⟩:∃ x,w.alloc (.cells #[rv,nv,lv,pv,.int .i64 g.start] 27) = x:=⟨_,rfl⟩
 rw [hW] at hB1 k1
 have hk1:=hid (fun u (hu:Below W.heap.size W u) => cells5m (hs_keep k1 hu))
 have hB:=hid hB1
 have G0:=hid (soundP g _ _ _ _ W (hV.keep hB1) hb hnl)
 obtain ⟨y0,y1,y2,y3,y4⟩:=hk1.out W (Below.refl _ _)
 by_cases hg:SndG g
 · rw [soundB_yes hg] at G0
   have GM:=hid (fun u (hu:Below W.heap.size W u) => markV15 g hg _ _ _ _ u (hV.keep (bl_step hB1 hu)))
   have hal:=all_le hg
   have his:Hid (vmL (nulL g) (g.all + 1) = nulL g):=hid (vmL_is (by unfold nulL;exact ofL_up _) (fun n hn => by
    have:=((nulL_mem hg n).1 hn).range hg
    omega))
   obtain ⟨N,hN9⟩:∃ n,Hid (g.all + 1 = n):=⟨_,hid rfl⟩
   rw [hN9.out] at GM his
   have hal:N ≤ 101:=by have:=hN9.out;omega
   have hS:=hid hg
   generalize hNL:nulL g = NL at *
   have hvs:=hid (fun k => vmL_succ NL k)
   have hvl:=hid (fun k => vmL_len NL k)
   clear hV hB1 k1 hb hnl hg hNL
   generalize g.start = st at *
   go_enter Tryz.func10,Tryz.ntmps10
   go_wp2_with (first
    | (go_at_call 23;refine G0.out.mono ?_;clear G0;rintro e w1 ⟨rfl,hc1⟩;have h1:=hid hc1;clear hc1 y0 y1 y2 y3 y4;obtain ⟨z0,z1,z2,z3,z4⟩:=hk1.out w1 h1.out)
    | (go_at_call 24;refine (GM.out w1 h1.out).mono ?_;clear GM;rintro e w2 ⟨mb,rfl,hM,-,hc2⟩;have hM:=hid hM;have h2:=hid (bl_step h1.out hc2);clear hc2 z0 z1 z2 z3 z4))
   clear hW hk1
   go_loopw [3,12] (fun vl i wr => ∃ k:Nat,k ≤ N ∧ i = .int .i64 (k:Int) ∧ Hid (Own wr w2.heap.size vl (vmL NL k)) ∧ Hid (Below w2.heap.size w2 wr)) (fun _ i _ => N - (intOf i).toNat)
   case atStart => exact ⟨0,Nat.zero_le _,rfl,hid (World.ownsRow_nil _ _ _ _),hid (Below.refl _ _)⟩
   case round =>
    obtain ⟨k,hk,rfl,hO,hbl⟩:=hrel
    have hlk:=hvl.out k
    by_cases hlt:k < N
    · have hltz:(k:Int) < (N:Int):=by omega
      have m0:=(hM.out.keep hbl.out).at (s:=(k:Int)) (by omega) (by omega)
      rw [Int.toNat_natCast] at m0
      have hs:=hvs.out k
      cases hc:NL.contains (k:Int) with
      | true =>
       rw [hc,if_pos rfl] at hs
       rw [hc] at m0
       have hs:=hid hs
       have hal9:=al' wr (.cells #[.int .i64 (k:Int)] 3)
       have hOa:=hid (own_below hO.out hal9)
       have hDa:=hid (Nums.of_row (Own.lit1 wr (k:Int)))
       have hBa:=hid (bl_step hbl.out hal9)
       clear hO hal9 hc
       go_wp2_with (at_builtin;refine wp_app _ rfl _ _ rfl w2.heap.size (vmL NL k) [(k:Int)] _ _ rfl rfl hOa.out hDa.out (by simp;omega) hBa.out.size ?_;intro v4 w4 hO4 hb4;have hO9:=hid hO4;have hb9:=hid (hBa.out.trans hb4);clear hO4 hb4)
       go_roundw
       case rel => exact ⟨k + 1,by omega,by go_num,hid (by rw [hs.out];exact hO9.out),hb9⟩
       case measure => simp [intOf];omega
      | false =>
       rw [hc,if_neg (by decide),List.append_nil] at hs
       rw [hc] at m0
       have hO9:=hid hO.out
       rw [← hs] at hO9
       clear hs hO hc
       go_wp2
       go_roundw
       case rel => exact ⟨k + 1,by omega,by go_num,hO9,hbl⟩
       case measure => simp [intOf];omega
    · have hltz:¬ (k:Int) < (N:Int):=by omega
      obtain rfl:k = N:=by omega
      have hN1:=hid (Nums.of_row hO.out)
      rw [his.out] at hN1
      have hend:=hid (bl_step hB.out (bl_step h2.out hbl.out))
      clear hO
      go_wp2
      go_ret
      exact ⟨_,rfl,fun _ => hN1.out,fun h => absurd hS.out h,hend.out⟩
 · rw [soundB_no hg] at G0
   have hS:=hid hg
   clear hV hB1 k1 hb hg hnl hk1
   generalize g.start = st at *
   go_enter Tryz.func10,Tryz.ntmps10
   go_wp2_with (go_at_call 23;refine G0.out.mono ?_;clear G0;rintro e w1 ⟨rfl,hc1⟩;have h1:=hid hc1;clear hc1)
   go_ret
   exact ⟨_,rfl,fun h => absurd h hS.out,fun _ => Nums.nil _,bl_step hB.out h1.out⟩
end Go.Proofs.YtfhokapfkclckaaGreat
namespace Go.Proofs.YtfhokapfkclckaaGreat
open Go.RowKit Go.Maps Go.Sort
theorem iniB_zero (N:Nat):iniB N 0 = List.replicate N []:=by
 unfold iniB
 apply List.ext_getElem
 · simp
 · intro i h1 h2
   simp
   omega
theorem iniB_len (N k:Nat):(iniB N k).length = N:=by unfold iniB;simp
structure KnL (g:Gm) (null:List Int) (B0 B:List (List Int)) (i:Nat) (b:Bool):Prop where
 is:B = (g.prods.take i).foldl (knP null) B0
 inv:KnI g B
 more:b = decide (totB B0 < totB B)
 le:totB B0 ≤ totB B
section
variable {g:Gm} {null:List Int} {B0 B:List (List Int)} {i:Nat} {b:Bool}
theorem KnL.start (h:KnI g B0):KnL g null B0 B0 0 false:=⟨rfl,h,by simp,Nat.le_refl _⟩
theorem KnL.next (hg:SndG g) (hv:∀ n ∈ null,Van g n) (h:KnL g null B0 B i b) (hi:i < g.prods.length) :
 KnL g null B0 (knP null B g.prods[i]) (i + 1) (decide ((atB B g.prods[i].left).length < (ofL (atB B g.prods[i].left ++ txB null B g.prods[i].right)).length) || b):=by
 have hm:=List.getElem_mem hi
 have hl:=left_sym hg hm
 have h1:=knP_tot (null:=null) hg h.inv hm
 have h2:=jnB_more (B:=B) (s:=g.prods[i].left) (by rw [h.inv.len];omega) (txB null B g.prods[i].right)
 refine ⟨by rw [take_fold hi,← h.is],h.inv.prod hg hv hm,?_,Nat.le_trans h.le h1⟩
 rw [h2,h.more]
 have h3:=h.le
 show (decide (totB B < totB (knP null B g.prods[i])) || decide (totB B0 < totB B)) = decide (totB B0 < totB (knP null B g.prods[i]))
 rw [Bool.eq_iff_iff,Bool.or_eq_true,decide_eq_true_iff,decide_eq_true_iff,decide_eq_true_iff]
 omega
theorem KnL.stop (hg:SndG g) (hv:∀ n ∈ null,Van g n) (h0:KnI g B0) (h:KnL g null B0 B i false) (hi:g.prods.length ≤ i):totB (knR g null B) = totB B:=by
 have e1:=h.is
 rw [List.take_of_length_le hi] at e1
 have e1:B = knR g null B0:=e1
 have h2:=h.more.symm
 rw [decide_eq_false_iff_not] at h2
 have h3:=h.le
 have h4:=(kn_done hg h0 hv (by rw [← e1];omega)).1
 rw [← e1] at h4
 rw [h4] at e1 ⊢
 rw [← e1]
theorem KnI.txl (h:KnI g B) (hv:∀ n ∈ null,Van g n) {t:List Int} (ht:∀ n ∈ t,0 ≤ n):(txB null B t).length ≤ g.terms:=
 nodup_le g.terms _ 0 ((ofL_up _).imp (fun h => by omega)) (fun n hn => by
  unfold txB at hn
  rw [ofL_mem] at hn
  have:=flt_snd h hv ht hn
  omega)
end
theorem RowsL.off {w:World} {mb rb:Nat} {B:List (List Int)} {vs:List Value} {T:TypeId} (h:RowsL w mb B) (hb:w.heap[rb]? = some (.cells vs.toArray T)) (hs:∀ v ∈ vs,∃ a n c,v = .slice a n c) (hne:mb ≠ rb) (j:Nat) (x:Value):RowsL (w.setCell ⟨rb,j,none⟩ x) mb B:=by
 obtain ⟨ws,h1,h2⟩:=h
 exact ⟨ws,(set_kept (rb:=rb)).blk h1 hne,h2.mono fun _ _ h9 => h9.store hb hs j x⟩
set_option maxRecDepth 20000 in
set_option maxHeartbeats 16000000 in
theorem knowC (g:Gm) (hg:SndG g) (rv nv lv pv:Value) (w:World) (hV:GmV w rv nv lv pv g) :
 Calls Tryz.prog 33 #[gmA rv nv lv pv g.start] w fun e w' => ∃ vb bb B,e = .returned (knA vb bb (g.all + 1)) ∧ KnV w' vb bb (g.all + 1) (nulL g) B ∧ Knw g B ∧ w.heap.size ≤ vb ∧ w.heap.size ≤ bb ∧ Below w.heap.size w w':=by
 have hal:=all_le hg
 have hr:=hg.rules
 have hp:=hg.prods
 obtain ⟨pa,pc,rfl⟩:=hV.prods.shape
 have hB1:=al' w (.cells #[rv,nv,lv,.slice pa g.prods.length pc,.int .i64 g.start] 27)
 have k1:=heap_new w (.cells #[rv,nv,lv,.slice pa g.prods.length pc,.int .i64 g.start] 27)
 have z1:(w.alloc (.cells #[rv,nv,lv,.slice pa g.prods.length pc,.int .i64 g.start] 27)).heap.size = w.heap.size + 1:=World.size_alloc ..
 obtain ⟨W,hW⟩:∃ x,w.alloc (.cells #[rv,nv,lv,.slice pa g.prods.length pc,.int .i64 g.start] 27) = x:=⟨_,rfl⟩
 rw [hW] at hB1 k1 z1
 have hB2:=al' W (.cells #[.slice none 0 0,.slice none 0 0] 60)
 have k2:=heap_new W (.cells #[.slice none 0 0,.slice none 0 0] 60)
 have z2:(W.alloc (.cells #[.slice none 0 0,.slice none 0 0] 60)).heap.size = W.heap.size + 1:=World.size_alloc ..
 obtain ⟨W2,hW2⟩:∃ x,W.alloc (.cells #[.slice none 0 0,.slice none 0 0] 60) = x:=⟨_,rfl⟩
 rw [hW2] at hB2 k2 z2
 have hBw2:=bl_step hB1 hB2
 have k1b:=hs_keep k1 hB2
 have GM:=hid (markV15 g hg _ _ _ _ W2 (hV.keep hBw2))
 have GT:=hid (fun u (hu:Below W2.heap.size W2 u) => gtermC rv nv lv _ g g.start u (hV.keep (bl_step hBw2 hu)) (by omega))
 obtain ⟨N,hN9⟩:∃ n,Hid (g.all + 1 = n):=⟨_,hid rfl⟩
 rw [hN9.out] at GM ⊢
 have hN:N ≤ 101:=by have:=hN9.out;omega
 have hmk:=run_make_row' (P:=Tryz.prog) 36 30 (.slice none 0 0) 24 Tryz.underlying36 infoIs rfl .i64 .i64 N (by omega) (by omega)
 have hmain:Hid (∀ w1 vb,Below W2.heap.size W2 w1 → MkB w1 vb N (nulL g) → W2.heap.size ≤ vb → ∀ W4,(w1.alloc (.cells (madeCells #[.slice none 0 0] N) 30)).alloc (.cells #[.slice (some ⟨vb,0,none⟩) N N,.slice (some ⟨w1.heap.size,0,none⟩) N N] 60) = W4 →
  RowsL W4 w1.heap.size (List.replicate N []) ∧ w.heap.size ≤ vb ∧ w.heap.size ≤ w1.heap.size ∧ Below W2.heap.size W2 W4 ∧
  (∀ u,Kept (oneBlk w1.heap.size) W4 u → Below W2.heap.size W2 u ∧ MkB u vb N (nulL g) ∧ u.heap[w1.heap.size + 1]? = some (.cells #[.slice (some ⟨vb,0,none⟩) N N,.slice (some ⟨w1.heap.size,0,none⟩) N N] 60) ∧ u.heap[W.heap.size]? = some (.cells #[.slice none 0 0,.slice none 0 0] 60) ∧ u.heap[w.heap.size]? = some (.cells #[rv,nv,lv,.slice pa g.prods.length pc,.int .i64 g.start] 27)) ∧ W.heap.size ≠ vb ∧ W.heap.size ≠ w1.heap.size):=hid (fun w1 vb h1 hM hvb W4 e4 => by
  have s1:=h1.size
  have hlt:=hM.lt
  have a1:=al' w1 (.cells (madeCells #[.slice none 0 0] N) 30)
  have y1:(w1.alloc (.cells (madeCells #[.slice none 0 0] N) 30)).heap.size = w1.heap.size + 1:=World.size_alloc ..
  have a2:=al' (w1.alloc (.cells (madeCells #[.slice none 0 0] N) 30)) (.cells #[.slice (some ⟨vb,0,none⟩) N N,.slice (some ⟨w1.heap.size,0,none⟩) N N] 60)
  have b2:=heap_new (w1.alloc (.cells (madeCells #[.slice none 0 0] N) 30)) (.cells #[.slice (some ⟨vb,0,none⟩) N N,.slice (some ⟨w1.heap.size,0,none⟩) N N] 60)
  rw [y1] at b2
  have hR:=(made_slices w1 N).keep a2
  have hM4:=(hM.keep a1).keep a2
  have hB4:Below W2.heap.size W2 ((w1.alloc (.cells (madeCells #[.slice none 0 0] N) 30)).alloc (.cells #[.slice (some ⟨vb,0,none⟩) N N,.slice (some ⟨w1.heap.size,0,none⟩) N N] 60)):=bl_step (bl_step h1 a1) a2
  rw [e4] at b2 hR hM4 hB4
  have q1:=hs_keep k2 hB4
  have q2:=hs_keep k1b hB4
  refine ⟨hR,by omega,by omega,hB4,fun u hu => ⟨hB4.trans (hu.below (fun k e => by rw [show k = w1.heap.size from e];exact s1) hB4.size),hu.blk hM4 (fun e => by have:vb = w1.heap.size:=e;omega),hu.blk b2 (fun e => by have:w1.heap.size + 1 = w1.heap.size:=e;omega),hu.blk q1 (fun e => by have:W.heap.size = w1.heap.size:=e;omega),hu.blk q2 (fun e => by have:w.heap.size = w1.heap.size:=e;omega)⟩,by omega,by omega⟩)
 have hKp:Hid (∀ u,Below W2.heap.size W2 u → ∀ i (hi:i < g.prods.length),∃ b o q1 q3,pa = some ⟨b,o,none⟩ ∧ u.cell? ⟨b,o + i * 3,none⟩ = some (.int .i64 g.prods[i].left) ∧ u.cell? ⟨b,o + i * 3 + 1,none⟩ = some (.slice q1 g.prods[i].right.length q3) ∧ u.cell? ⟨b,o + i * 3 + 2,none⟩ = some (.int .i64 g.prods[i].prec) ∧ Nums u (.slice q1 g.prods[i].right.length q3) g.prods[i].right):=hid (fun u hu i hi => by
  obtain ⟨b0,o0,e0,hb0,v,h0,h1,h2,hN⟩:=(hV.keep (bl_step hBw2 hu)).prods.at hi
  obtain ⟨q1,q3,rfl,-⟩:=id hN
  exact ⟨b0,o0,q1,q3,e0,h0,h1,h2,hN⟩)
 have hpd:Hid (∀ i (hi:i < g.prods.length),0 ≤ g.prods[i].left ∧ g.prods[i].left.toNat < N ∧ g.prods[i].right.length ≤ 8 ∧ ∀ s ∈ g.prods[i].right,0 ≤ s ∧ s.toNat < N):=hid (fun i hi => by
  have h1:=left_sym hg (List.getElem_mem hi)
  have h2:=right_sym hg (List.getElem_mem hi)
  have:=hg.prod _ (List.getElem_mem hi)
  unfold pdB at this
  simp only [Bool.and_eq_true,decide_eq_true_eq,List.all_eq_true] at this
  have h9:=hN9.out
  refine ⟨by omega,by omega,this.1.1.1.2,fun s hs => ?_⟩
  have:=h2 s hs
  omega)
 have hvv:∀ n ∈ nulL g,Van g n:=fun n hn => (nulL_mem hg n).1 hn
 have hnx:=hid (fun B0 B i b (h:KnL g (nulL g) B0 B i b) (hi:i < g.prods.length) => h.next hg hvv hi)
 have hsp:=hid (fun B0 B i (h0:KnI g B0) (h:KnL g (nulL g) B0 B i false) (hi:g.prods.length ≤ i) => h.stop hg hvv h0 hi)
 have hkw:=hid (fun B (h:KnI g B) (ht:totB (knR g (nulL g) B) = totB B) => knw_of hg h ht)
 have hI0:Hid (KnI g (iniB N g.terms)):=hid (by have:=KnI.start g;rw [hN9.out] at this;exact this)
 have htot:=hid (fun B (h:KnI g B) => h.tot hg)
 have hlen:Hid (∀ B,KnI g B → B.length = N):=hid (fun B h => by rw [h.len,hN9.out])
 have hsml:Hid (∀ B,KnI g B → ∀ s,(atB B s).length ≤ 1000):=hid (fun B h s => by
  unfold atB
  rw [List.getD_eq_getElem?_getD]
  cases e:B[s.toNat]? with
  | none => exact Nat.zero_le _
  | some l =>
   have h1:=h.lens l (List.mem_of_getElem? e)
   have h2:=terms_le15 g
   show l.length ≤ 1000
   omega)
 have hini:=hid (fun k (hk:k + 1 < N) => iniB_succ hk)
 have htx9:Hid (∀ B (_:KnI g B) i (hi:i < g.prods.length),(txB (nulL g) B g.prods[i].right).length ≤ 1000):=hid (fun B h i hi => by
  have h1:=h.txl hvv (t:=g.prods[i].right) (fun n hn => by have:=right_sym hg (List.getElem_mem hi) n hn;omega)
  have h2:=terms_le15 g
  omega)
 have htn:g.terms + 1 ≤ N:=by have:=hN9.out;unfold Gm.all at this;omega
 have hBw:=hid hBw2
 have ht:=terms_le15 g
 obtain ⟨x0,x1,x2,x3,x4⟩:=cells5m k1b
 have hsz:Hid (w.heap.size ≤ W.heap.size ∧ w.heap.size ≤ W2.heap.size):=hid ⟨by omega,by omega⟩
 clear hV hB1 hB2 k1 k2 k1b hg z1 z2 hvv
 obtain ⟨tm,htm⟩:∃ n,Hid (g.terms = n):=⟨_,hid rfl⟩
 obtain ⟨pn,hpn⟩:∃ n,Hid (g.prods.length = n):=⟨_,hid rfl⟩
 obtain ⟨st,hst⟩:∃ n,Hid (g.start = n):=⟨_,hid rfl⟩
 obtain ⟨NL,hNL⟩:∃ n,Hid (nulL g = n):=⟨_,hid rfl⟩
 rw [hNL.out] at GM hmain hnx hsp hkw htx9 ⊢
 rw [htm.out] at GT ht hI0 htn
 rw [hst.out] at GT GM hW hmain x4 ⊢
 rw [hpn.out] at GT GM hW hp hmain x3 ⊢
 go_enter Tryz.func33,Tryz.ntmps33
 go_wp2_with (first
  | (go_at_call 24;refine GM.out.mono ?_;clear GM;rintro e w1 ⟨vb,rfl,hM1,hvb,hc1⟩
     obtain ⟨W4,hW4⟩:∃ x,(w1.alloc (.cells (madeCells #[.slice none 0 0] N) 30)).alloc (.cells #[.slice (some ⟨vb,0,none⟩) N N,.slice (some ⟨w1.heap.size,0,none⟩) N N] 60) = x:=⟨_,rfl⟩
     obtain ⟨hR4,hv1,hv2,hB4,hk4,hne1,hne2⟩:=hmain.out w1 vb hc1 hM1 hvb W4 hW4
     have hR4:=hid hR4;have hv1:=hid hv1;have hv2:=hid hv2;have hB4:=hid hB4;have hk4:=hid hk4;have hne1:=hid hne1;have hne2:=hid hne2
     obtain ⟨q0,q1,q2,q3,q4⟩:=cells5m (hk4.out W4 (Kept.refl _ _)).2.2.2.2
     clear hc1 hM1 hvb hmain)
  | (go_at_call 30;refine (GT.out W4 hB4.out).mono ?_;clear GT;rintro e w5 ⟨rfl,hc5⟩;have h5:=hid hc5;clear hc5))
 clear hW hW2 hmk x0 x1 x2 x3 x4 q0 q1 q2 q3 q4
 have hR4:Hid (RowsL w5 w1.heap.size (iniB N 0)):=hid (by rw [iniB_zero];exact hR4.out.keep h5.out)
 have hK4:Hid (Kept (oneBlk w1.heap.size) W4 w5):=hid (Kept.of_below h5.out)
 generalize w1.heap.size = bb at *
 go_loopw [20] (fun i wr => ∃ k:Nat,k ≤ tm ∧ i = .int .i64 (k:Int) ∧ Hid (RowsL wr bb (iniB N k)) ∧ Hid (Kept (oneBlk bb) W4 wr)) (fun i _ => tm - (intOf i).toNat)
 case atStart => exact ⟨0,Nat.zero_le _,rfl,hR4,hK4⟩
 case round =>
  clear hR4 hK4
  obtain ⟨k,hk,rfl,hR,hK⟩:=hrel
  obtain ⟨l1,l2,l3,l4,l5⟩:=hk4.out wr hK.out
  by_cases hlt:k < tm
  · have hltz:(k:Int) < (tm:Int):=by omega
    have hkN:k + 1 < N:=by omega
    have hini1:=hid (hini.out k hkN)
    have e1:=blk_cell (o:=1) l3 rfl
    have hal9:=al' wr (.cells #[.int .i64 (((k + 1:Nat)):Int)] 3)
    have hRa:=hR.out.keep hal9
    have hLn:=iniB_len N k
    obtain ⟨y,ry,-,-⟩:=hRa.at (s:=((k + 1:Nat):Int)) (by rw [hLn];omega)
    rw [Int.toNat_natCast] at ry
    have hfz:=hRa.free (k + 1)
    have hput:=hid (hRa.put (k + 1) (Nums.of_row (Own.lit1 wr ((k + 1:Nat):Int))) (by simp))
    have hKa:=hid ((hK.out.trans (Kept.of_below hal9)).trans (set_kept (rb:=bb) (o:=k + 1) (v:=.slice (some ⟨wr.heap.size,0,none⟩) 1 1)))
    rw [← hini1.out] at hput
    have hkz:((k:Int) + 1) = ((k + 1:Nat):Int):=by omega
    have hw1:IntKind.i64.wrap ((k:Int) + 1) = ((k + 1:Nat):Int):=by rw [IntKind.wrap_i64];omega
    clear hini1 hRa hal9 hR hK l1 l2 l3 l4 l5 hLn
    obtain ⟨k1,hk1⟩:∃ k1,Hid (k + 1 = k1):=⟨_,hid rfl⟩
    rw [hk1.out] at hkN ry hfz hput hKa hkz hw1
    have hk2:k1 ≤ tm:=by have:=hk1.out;omega
    go_wp2
    go_roundw
    case rel => exact ⟨k1,hk2,by rw [← hkz],hput,hKa⟩
    case measure => have:=hk1.out;simp [intOf];omega
  · have hltz:¬ (k:Int) < (tm:Int):=by omega
    obtain rfl:k = tm:=by omega
    have hR5:=hR
    have hK5:=hK
    clear hR hK l1 l2 l3 l4 l5
    go_wp2_with fail
    go_loopg [6] 1700 (fun gk mo wr => ∃ (b:Bool) (B:List (List Int)),mo = .bool b ∧ Hid (RowsL wr bb B) ∧ Hid (KnI g B) ∧ Hid (b = false → totB (knR g NL B) = totB B) ∧ Hid (Kept (oneBlk bb) W4 wr) ∧ Hid ((1650 - totB B) + (if b then 1 else 0) ≤ gk))
    case atStart => exact ⟨true,_,rfl,hR5,hI0,hid (fun e => by cases e),hK5,hid (by simp;omega)⟩
    case round =>
     clear hR5 hI0 hK5
     obtain ⟨b,B0,rfl,hR,hI,hd,hK,hgk⟩:=hrel
     obtain ⟨l1,l2,l3,l4,l5⟩:=hk4.out wr hK.out
     cases b with
     | false =>
      have hend:=hid (hkw.out B0 hI.out (hd.out rfl))
      have hlB:=hid (hlen.out B0 hI.out)
      have m0:=blk_cell (o:=0) l3 rfl
      have m1:=blk_cell (o:=1) l3 rfl
      have r0:=blk_cell (o:=0) l4 rfl
      have r1:=blk_cell (o:=1) l4 rfl
      have rf0:=blk_frozen l4 0
      have rf1:=blk_frozen l4 1
      have b1:=heap_setCell (o:=0) (v:=.slice (some ⟨vb,0,none⟩) N N) l4
      have b2:=heap_setCell (o:=1) (v:=.slice (some ⟨bb,0,none⟩) N N) b1
      have R1:=hR.out.off l4 (fun v hv => by simp at hv;exact ⟨_,_,_,hv⟩) hne2.out.symm 0 (.slice (some ⟨vb,0,none⟩) N N)
      have R2:=R1.off (vs:=[.slice (some ⟨vb,0,none⟩) N N,.slice none 0 0]) b1 (fun v hv => by simp at hv;rcases hv with rfl | rfl <;> exact ⟨_,_,_,rfl⟩) hne2.out.symm 1 (.slice (some ⟨bb,0,none⟩) N N)
      have K1:Kept (oneBlk W.heap.size) wr (wr.setCell ⟨W.heap.size,0,none⟩ (.slice (some ⟨vb,0,none⟩) N N)):=set_kept
      have K2:Kept (oneBlk W.heap.size) wr ((wr.setCell ⟨W.heap.size,0,none⟩ (.slice (some ⟨vb,0,none⟩) N N)).setCell ⟨W.heap.size,1,none⟩ (.slice (some ⟨bb,0,none⟩) N N)):=K1.trans set_kept
      have M2:=K2.blk l2 (fun e => hne1.out e.symm)
      obtain ⟨S1,hS1⟩:∃ x,wr.setCell ⟨W.heap.size,0,none⟩ (.slice (some ⟨vb,0,none⟩) N N) = x:=⟨_,rfl⟩
      rw [hS1] at b1 b2 R2 K2 M2
      have c2:=blk_cell (o:=1) b1 rfl
      have c3:=blk_frozen b1 1
      obtain ⟨S2,hS2⟩:∃ x,S1.setCell ⟨W.heap.size,1,none⟩ (.slice (some ⟨bb,0,none⟩) N N) = x:=⟨_,rfl⟩
      rw [hS2] at b2 R2 K2 M2
      have c4:=blk_cell (o:=0) b2 rfl
      have c5:=blk_cell (o:=1) b2 rfl
      have hBB:Hid (Below w.heap.size w S2):=hid ((bl_step hBw.out l1).trans (K2.below (fun k e => by rw [show k = W.heap.size from e];exact hsz.out.1) (Nat.le_trans hsz.out.2 l1.size)))
      have R2:=hid R2
      have M2:=hid M2
      clear R1 K1 K2 b1 b2 hR l1 l2 l3 l4 l5 hK hI hd
      go_wp2
      refine bodyPost_ret (v:=knA vb bb N) (by simp [results,Tryz.results33,go_sem,c4,c5]) rfl ?_
      exact ⟨vb,bb,B0,rfl,⟨M2.out,R2.out,hlB.out⟩,hend.out,hv1.out,hv2.out,hBB.out⟩
     | true =>
      have hE0:=hid (KnL.start (null:=NL) hI.out)
      obtain ⟨-,-,-,x3,-⟩:=cells5m l5
      have hg1:Hid (1650 - totB B0 + 1 ≤ gk):=hid (by simpa using hgk.out)
      have hI0:=hid hI.out
      clear hd hI l1 l2 l3 l4 l5 hgk
      go_wp2_with fail
      clear x3
      go_loopw [6,36] (fun mo x wr => ∃ (b:Bool) (B:List (List Int)) (i:Nat),i ≤ pn ∧ mo = .bool b ∧ x = .int .i64 (i:Int) ∧ Hid (RowsL wr bb B) ∧ Hid (KnL g NL B0 B i b) ∧ Hid (Kept (oneBlk bb) W4 wr)) (fun _ x _ => pn - (intOf x).toNat)
      case atStart => exact ⟨false,B0,0,Nat.zero_le _,rfl,rfl,hR,hE0,hK⟩
      case round =>
       clear hR hE0 hK
       obtain ⟨b,B,i,hi,rfl,rfl,hR,hE,hK⟩:=hrel
       by_cases hlt:i < pn
       · have hltz:(i:Int) < (pn:Int):=by omega
         have hil:i < g.prods.length:=by rw [hpn.out];exact hlt
         obtain ⟨l1,l2,l3,-,-⟩:=hk4.out wr hK.out
         obtain ⟨pb,po,q1,q3,rfl,d0,d1,d2,hN1⟩:=hKp.out wr l1 i hil
         obtain ⟨hp1,hp2,hp3,hp4⟩:=hpd.out i hil
         have hal9:=al' wr (.cells #[.int .i64 g.prods[i].left,.slice q1 g.prods[i].right.length q3,.int .i64 g.prods[i].prec] 43)
         have e0:(wr.alloc (.cells #[.int .i64 g.prods[i].left,.slice q1 g.prods[i].right.length q3,.int .i64 g.prods[i].prec] 43)).heap[wr.heap.size]? = some (.cells #[.int .i64 g.prods[i].left,.slice q1 g.prods[i].right.length q3,.int .i64 g.prods[i].prec] 43):=heap_new wr _
         have hlB:=hlen.out B hE.out.inv
         have hsB:=hsml.out B hE.out.inv
         have hKn:KnV wr vb bb N NL B:=⟨l2,hR.out,hlB⟩
         have hR1:=hR.out.keep hal9
         obtain ⟨wa,hwa⟩:∃ x,wr.alloc (.cells #[.int .i64 g.prods[i].left,.slice q1 g.prods[i].right.length q3,.int .i64 g.prods[i].prec] 43) = x:=⟨_,rfl⟩
         rw [hwa] at hal9 e0 hR1
         have GO:=hid (ofTextC vb bb N NL B _ g.prods[i].right wa (hKn.keep hal9) (hN1.keep hal9) hp4 (by omega) (by omega) hsB)
         have hnext:=hid (hnx.out B0 B i b hE.out hil)
         have GJ:=hid (fun (u:World) v (hu:Below wa.heap.size wa u) (hv:Nums u v (txB NL B g.prods[i].right)) (hl:(txB NL B g.prods[i].right).length ≤ 1000) => joinC bb B g.prods[i].left v _ u (hR1.keep hu) hp1 (by rw [hlB];exact hp2) hv hl (hsB _))
         rw [hlB] at GJ
         have htl:Hid ((txB NL B g.prods[i].right).length ≤ 1000):=hid (htx9.out B hE.out.inv i hil)
         have hKa:=hid (hK.out.trans (Kept.of_below hal9))
         have f0:=blk_cell (o:=0) e0 rfl
         have f1:=blk_cell (o:=1) e0 rfl
         have l3a:=hs_keep l3 hal9
         have m0:=blk_cell (o:=0) l3a rfl
         have m1:=blk_cell (o:=1) l3a rfl
         have hf9:=hid (fun u (hu:Below wa.heap.size wa u) => And.intro (blk_cell (o:=0) (hs_keep e0 hu) rfl) (blk_cell (o:=1) (hs_keep l3a hu) rfl))
         have hkp9:Hid (knP NL B g.prods[i] = jnB B g.prods[i].left (txB NL B g.prods[i].right)):=hid rfl
         rw [hkp9.out] at hnext
         clear hal9 e0 hK hKn hR1 hN1 l1 l2 l3 l3a hE hR hkp9 hlB hsB hp4
         generalize jnB B g.prods[i].left (txB NL B g.prods[i].right) = B' at *
         generalize decide ((atB B g.prods[i].left).length < (ofL (atB B g.prods[i].left ++ txB NL B g.prods[i].right)).length) = J at *
         generalize txB NL B g.prods[i].right = TX at *
         generalize goneB NL g.prods[i].right = GN at *
         generalize g.prods[i].right.length = v2 at *
         generalize g.prods[i].left = v1 at *
         generalize g.prods[i].prec = v3 at *
         cases J with
         | true =>
          go_wp2_with (first
           | (go_at_call 34;refine GO.out.mono ?_;clear GO;rintro e w6 ⟨v6,rfl,hO6,hc6⟩;have hc6:=hid hc6;obtain ⟨f0',m1'⟩:=hf9.out w6 hc6.out;have hN6:=hid (Nums.of_row hO6);clear hO6)
           | (go_at_call 52;refine (GJ.out w6 v6 hc6.out hN6.out htl.out).mono ?_;clear GJ;rintro e w7 ⟨rfl,hR7,hK7⟩;have hR7:=hid hR7;have hK7:=hid ((hKa.out.trans (Kept.of_below hc6.out)).trans hK7)))
          go_roundw
          case rel => exact ⟨true,B',i + 1,by omega,rfl,by go_num,hR7,hnext,hK7⟩
          case measure => simp [intOf];omega
         | false =>
          rw [Bool.false_or] at hnext
          go_wp2_with (first
           | (go_at_call 34;refine GO.out.mono ?_;clear GO;rintro e w6 ⟨v6,rfl,hO6,hc6⟩;have hc6:=hid hc6;obtain ⟨f0',m1'⟩:=hf9.out w6 hc6.out;have hN6:=hid (Nums.of_row hO6);clear hO6)
           | (go_at_call 52;refine (GJ.out w6 v6 hc6.out hN6.out htl.out).mono ?_;clear GJ;rintro e w7 ⟨rfl,hR7,hK7⟩;have hR7:=hid hR7;have hK7:=hid ((hKa.out.trans (Kept.of_below hc6.out)).trans hK7)))
          go_roundw
          case rel => exact ⟨b,B',i + 1,by omega,rfl,by go_num,hR7,hnext,hK7⟩
          case measure => simp [intOf];omega
       · have hltz:¬ (i:Int) < (pn:Int):=by omega
         have hall9:Hid (b = false → totB (knR g NL B) = totB B):=hid (fun e => by subst e;exact hsp.out B0 B i hI0.out hE.out (by rw [hpn.out];omega))
         have hcnt:Hid ((1650 - totB B) + (if b then 1 else 0) < gk):=hid (by
          have h1:=hg1.out
          have h2:=hE.out.more
          have h3:=htot.out B hE.out.inv
          have h4:=hE.out.le
          cases b with
          | false => simp;omega
          | true =>
           have h2:=h2.symm
           rw [decide_eq_true_iff] at h2
           simp
           omega)
         have hC9:=hid hE.out.inv
         go_wp2
         go_roundg ((1650 - totB B) + (if b then 1 else 0))
         case measure => exact hcnt.out
         case rel => exact ⟨b,B,rfl,hR,hC9,hall9,hK,hid (Nat.le_refl _)⟩
end Go.Proofs.YtfhokapfkclckaaGreat
namespace Go.Proofs.YtfhokapfkclckaaGreat
open Go.RowKit Go.Maps
structure Fits12 (g:Gm):Prop where
 rules:g.rules.length ≤ 40
 nonts:g.nonts.length ≤ 40
 levels:g.levels.length ≤ 100
 prods:g.prods.length ≤ 60
 rule:∀ j (h:j < g.rules.length),g.rules[j].re.length ≤ 100 ∧ g.rules[j].name.length ≤ 100
 nont:∀ j (h:j < g.nonts.length),g.nonts[j].length ≤ 100
 prod:∀ j (h:j < g.prods.length),g.prods[j].right.length ≤ 30
def LngA (g:Gm) (w:World) (e:Ending) (w':World):Prop:=∃ b,e = .returned (.bool b) ∧ (b = false ↔ Fits12 g) ∧ Below w.heap.size w w'
theorem LngA.yes {g:Gm} {w w':World} (h:Below w.heap.size w w') (hf:¬ Fits12 g):LngA g w (.returned (.bool true)) w':=⟨true,rfl,⟨fun h => (by cases h),fun h => absurd h hf⟩,h⟩
theorem LngA.no {g:Gm} {w w':World} (h:Below w.heap.size w w') (hf:Fits12 g):LngA g w (.returned (.bool false)) w':=⟨false,rfl,⟨fun _ => hf,fun _ => rfl⟩,h⟩
set_option maxRecDepth 20000 in
set_option maxHeartbeats 2000000 in
theorem long12 (rv nv lv pv:Value) (g:Gm) (w:World) (h:GmV w rv nv lv pv g) :
 Calls Tryz.prog 9 #[gmA rv nv lv pv g.start] w (LngA g w):=by
 obtain ⟨a,c,rfl⟩:=h.rules.shape
 obtain ⟨na,nc,rfl⟩:=h.nonts.shape
 obtain ⟨la,lc,rfl⟩:=h.levels.shape
 obtain ⟨pa,pc,rfl⟩:=h.prods.shape
 have hV:=hid h
 clear h
 obtain ⟨st,hst⟩:∃ x,g.start = x:=⟨_,rfl⟩
 rw [hst]
 obtain ⟨n,hn⟩:∃ n,Hid (g.rules.length = n):=⟨_,hid rfl⟩
 obtain ⟨nn,hnn⟩:∃ n,Hid (g.nonts.length = n):=⟨_,hid rfl⟩
 obtain ⟨nl,hnl⟩:∃ n,Hid (g.levels.length = n):=⟨_,hid rfl⟩
 obtain ⟨np,hnp⟩:∃ n,Hid (g.prods.length = n):=⟨_,hid rfl⟩
 rw [hn.out,hnn.out,hnl.out,hnp.out] at hV ⊢
 obtain ⟨W1,hW1⟩:∃ x,w.alloc (.cells #[.slice a n c,.slice na nn nc,.slice la nl lc,.slice pa np pc,.int .i64 st] 27) = x:=⟨_,rfl⟩
 have hB1:Hid (Below w.heap.size w W1):=by rw [← hW1];exact hid (al' w _)
 have hk1:Hid (W1.heap[w.heap.size]? = some (.cells #[.slice a n c,.slice na nn nc,.slice la nl lc,.slice pa np pc,.int .i64 st] 27)):=by rw [← hW1];exact hid (heap_new w _)
 have y0:W1.cell? ⟨w.heap.size,0,none⟩ = some (.slice a n c):=blk_cell hk1.out rfl
 have y1:W1.cell? ⟨w.heap.size,1,none⟩ = some (.slice na nn nc):=blk_cell hk1.out rfl
 have y2:W1.cell? ⟨w.heap.size,2,none⟩ = some (.slice la nl lc):=blk_cell hk1.out rfl
 have y3:W1.cell? ⟨w.heap.size,3,none⟩ = some (.slice pa np pc):=blk_cell hk1.out rfl
 have hV1:=hid (hV.out.keep hB1.out)
 clear hV hk1 hst
 by_cases hbig:n ≤ 40 ∧ nn ≤ 40 ∧ nl ≤ 100 ∧ np ≤ 60
 · obtain ⟨b1,b2,b3,b4⟩:=hbig
   have c1:¬ (40:Int) < (n:Int):=by omega
   have c2:¬ (40:Int) < (nn:Int):=by omega
   have c3:¬ (100:Int) < (nl:Int):=by omega
   have c4:¬ (60:Int) < (np:Int):=by omega
   go_enter Tryz.func9,Tryz.ntmps9
   go_wp2
   clear hW1 c1 c2 c3 c4
   go_loopw [31] (fun i wr => ∃ k:Nat,k ≤ n ∧ i = .int .i64 (k:Int) ∧ Hid (∀ j (h:j < g.rules.length),j < k → g.rules[j].re.length ≤ 100 ∧ g.rules[j].name.length ≤ 100) ∧ wr = W1) (fun i _ => n - (intOf i).toNat)
   case atStart => exact ⟨0,Nat.zero_le _,rfl,hid (fun j _ hj => absurd hj (Nat.not_lt_zero _)),rfl⟩
   case round =>
    obtain ⟨k,hk,rfl,hS,hwr⟩:=hrel
    subst wr
    by_cases hlt:k < n
    · have hltz:(k:Int) < (n:Int):=by omega
      have hkl:k < g.rules.length:=by rw [hn.out];exact hlt
      obtain ⟨b,o,he,-,v,x0,x1,-,hC⟩:=hV1.out.rules.at hkl
      subst he
      obtain ⟨ra,rc,rfl,-⟩:=hC
      have hsz:=strT_size g.rules[k].name
      have hS1:Hid (g.rules[k].re.length ≤ 100 → g.rules[k].name.length ≤ 100 → ∀ j (h:j < g.rules.length),j < k + 1 → g.rules[j].re.length ≤ 100 ∧ g.rules[j].name.length ≤ 100):=hid (fun p1 p2 j h hj => by
       rcases Nat.lt_or_ge j k with h8 | h8
       · exact hS.out j h h8
       · obtain rfl:j = k:=by omega
         exact ⟨p1,p2⟩)
      have hF1:Hid (100 < g.rules[k].re.length → ¬ Fits12 g):=hid (fun h9 h8 => absurd (h8.rule k hkl).1 (by omega))
      have hF2:Hid (100 < g.rules[k].name.length → ¬ Fits12 g):=hid (fun h9 h8 => absurd (h8.rule k hkl).2 (by omega))
      generalize g.rules[k].re.length = rl at *
      generalize g.rules[k].name = T at *
      by_cases h1:100 < rl
      · have h1z:(100:Int) < (rl:Int):=by omega
        clear hS1
        go_wp2
        go_ret
        exact LngA.yes hB1.out (hF1.out h1)
      · have h1z:¬ (100:Int) < (rl:Int):=by omega
        by_cases h2:100 < T.length
        · have h2z:(100:Int) < (T.length:Int):=by omega
          clear hS1
          go_wp2
          go_ret
          exact LngA.yes hB1.out (hF2.out h2)
        · have h2z:¬ (100:Int) < (T.length:Int):=by omega
          have hS2:=hid (hS1.out (by omega) (by omega))
          clear hS1
          go_wp2
          go_roundw
          case rel => exact ⟨k + 1,by omega,by go_num,hS2,by first | rfl | trivial⟩
          case measure => simp [intOf];omega
    · have hltz:¬ (k:Int) < (n:Int):=by omega
      obtain rfl:k = n:=by omega
      go_wp2
      have hS9:=hid (fun j (h:j < g.rules.length) => hS.out j h (by rw [← hn.out];exact h))
      clear hS hlt hltz hk
      go_loopw [56] (fun i wr => ∃ q:Nat,q ≤ nn ∧ i = .int .i64 (q:Int) ∧ Hid (∀ j (h:j < g.nonts.length),j < q → g.nonts[j].length ≤ 100) ∧ wr = W1) (fun i _ => nn - (intOf i).toNat)
      case atStart => exact ⟨0,Nat.zero_le _,rfl,hid (fun j _ hj => absurd hj (Nat.not_lt_zero _)),by first | rfl | trivial⟩
      case round =>
       obtain ⟨q,hk,rfl,hS,hwr⟩:=hrel
       subst wr
       by_cases hlt:q < nn
       · have hltz:(q:Int) < (nn:Int):=by omega
         have hkl:q < g.nonts.length:=by rw [hnn.out];exact hlt
         obtain ⟨b,o,he,-,x0⟩:=hV1.out.nonts.at hkl
         subst he
         rw [Nat.mul_one] at x0
         unfold TxtAt at x0
         have hsz:=strT_size g.nonts[q]
         have hS1:Hid (g.nonts[q].length ≤ 100 → ∀ j (h:j < g.nonts.length),j < q + 1 → g.nonts[j].length ≤ 100):=hid (fun p1 j h hj => by
          rcases Nat.lt_or_ge j q with h8 | h8
          · exact hS.out j h h8
          · obtain rfl:j = q:=by omega
            exact p1)
         have hF1:Hid (100 < g.nonts[q].length → ¬ Fits12 g):=hid (fun h9 h8 => absurd (h8.nont q hkl) (by omega))
         generalize g.nonts[q] = T at *
         by_cases h2:100 < T.length
         · have h2z:(100:Int) < (T.length:Int):=by omega
           clear hS1
           go_wp2
           go_ret
           exact LngA.yes hB1.out (hF1.out h2)
         · have h2z:¬ (100:Int) < (T.length:Int):=by omega
           have hS2:=hid (hS1.out (by omega))
           clear hS1
           go_wp2
           go_roundw
           case rel => exact ⟨q + 1,by omega,by go_num,hS2,by first | rfl | trivial⟩
           case measure => simp [intOf];omega
       · have hltz:¬ (q:Int) < (nn:Int):=by omega
         obtain rfl:q = nn:=by omega
         go_wp2
         have hN9:=hid (fun j (h:j < g.nonts.length) => hS.out j h (by rw [← hnn.out];exact h))
         clear hS hlt hltz hk
         go_loopw [70] (fun i wr => ∃ r:Nat,r ≤ np ∧ i = .int .i64 (r:Int) ∧ Hid (∀ j (h:j < g.prods.length),j < r → g.prods[j].right.length ≤ 30) ∧ wr = W1) (fun i _ => np - (intOf i).toNat)
         case atStart => exact ⟨0,Nat.zero_le _,rfl,hid (fun j _ hj => absurd hj (Nat.not_lt_zero _)),by first | rfl | trivial⟩
         case round =>
          obtain ⟨r,hk,rfl,hS,hwr⟩:=hrel
          subst wr
          by_cases hlt:r < np
          · have hltz:(r:Int) < (np:Int):=by omega
            have hkl:r < g.prods.length:=by rw [hnp.out];exact hlt
            obtain ⟨b,o,he,-,v,-,x1,-,hC⟩:=hV1.out.prods.at hkl
            subst he
            obtain ⟨ra,rc,rfl,-⟩:=hC
            have hS1:Hid (g.prods[r].right.length ≤ 30 → ∀ j (h:j < g.prods.length),j < r + 1 → g.prods[j].right.length ≤ 30):=hid (fun p1 j h hj => by
             rcases Nat.lt_or_ge j r with h8 | h8
             · exact hS.out j h h8
             · obtain rfl:j = r:=by omega
               exact p1)
            have hF1:Hid (30 < g.prods[r].right.length → ¬ Fits12 g):=hid (fun h9 h8 => absurd (h8.prod r hkl) (by omega))
            generalize g.prods[r].right.length = rl at *
            by_cases h2:30 < rl
            · have h2z:(30:Int) < (rl:Int):=by omega
              clear hS1
              go_wp2
              go_ret
              exact LngA.yes hB1.out (hF1.out h2)
            · have h2z:¬ (30:Int) < (rl:Int):=by omega
              have hS2:=hid (hS1.out (by omega))
              clear hS1
              go_wp2
              go_roundw
              case rel => exact ⟨r + 1,by omega,by go_num,hS2,by first | rfl | trivial⟩
              case measure => simp [intOf];omega
          · have hltz:¬ (r:Int) < (np:Int):=by omega
            obtain rfl:r = np:=by omega
            have hfit:Hid (Fits12 g):=hid ⟨by rw [hn.out];exact b1,by rw [hnn.out];exact b2,by rw [hnl.out];exact b3,by rw [hnp.out];exact b4,hS9.out,hN9.out,fun j h => hS.out j h (by rw [← hnp.out];exact h)⟩
            go_wp2
            go_ret
            exact LngA.no hB1.out hfit.out
 · have hb':(40:Int) < (n:Int) ∨ (¬ (40:Int) < (n:Int) ∧ (40:Int) < (nn:Int)) ∨ (¬ (40:Int) < (n:Int) ∧ ¬ (40:Int) < (nn:Int) ∧ (100:Int) < (nl:Int)) ∨ (¬ (40:Int) < (n:Int) ∧ ¬ (40:Int) < (nn:Int) ∧ ¬ (100:Int) < (nl:Int) ∧ (60:Int) < (np:Int)):=by omega
   have hNF:Hid (¬ Fits12 g):=hid (fun h9 => hbig ⟨by rw [← hn.out];exact h9.rules,by rw [← hnn.out];exact h9.nonts,by rw [← hnl.out];exact h9.levels,by rw [← hnp.out];exact h9.prods⟩)
   clear hbig
   rcases hb' with c1 | ⟨c1,c2⟩ | ⟨c1,c2,c3⟩ | ⟨c1,c2,c3,c4⟩
   · go_enter Tryz.func9,Tryz.ntmps9
     go_wp2
     go_ret
     exact LngA.yes hB1.out hNF.out
   · go_enter Tryz.func9,Tryz.ntmps9
     go_wp2
     go_ret
     exact LngA.yes hB1.out hNF.out
   · go_enter Tryz.func9,Tryz.ntmps9
     go_wp2
     go_ret
     exact LngA.yes hB1.out hNF.out
   · go_enter Tryz.func9,Tryz.ntmps9
     go_wp2
     go_ret
     exact LngA.yes hB1.out hNF.out
set_option maxRecDepth 20000 in
theorem longYes (rv nv lv pv:Value) (g:Gm) (w:World) (h:GmV w rv nv lv pv g) (hf:¬ Fits12 g):Calls Tryz.prog 9 #[gmA rv nv lv pv g.start] w fun e w' => e = .returned (.bool true) ∧ Below w.heap.size w w':=
 (long12 rv nv lv pv g w h).mono (by
  rintro e w' ⟨b,rfl,hb,hw⟩
  cases b with
  | true => exact ⟨rfl,hw⟩
  | false => exact absurd (hb.1 rfl) hf)
set_option maxRecDepth 20000 in
theorem longNo (rv nv lv pv:Value) (g:Gm) (w:World) (h:GmV w rv nv lv pv g) (hf:Fits12 g):Calls Tryz.prog 9 #[gmA rv nv lv pv g.start] w fun e w' => e = .returned (.bool false) ∧ Below w.heap.size w w':=
 (long12 rv nv lv pv g w h).mono (by
  rintro e w' ⟨b,rfl,hb,hw⟩
  rw [hb.2 hf]
  exact ⟨rfl,hw⟩)
end Go.Proofs.YtfhokapfkclckaaGreat
