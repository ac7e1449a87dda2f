/- What settle asks of the reader. gram.Parse: its own walk. gram.Name. topiarylaw16.long. -/
import Derived.Test.YtbpnioehmohbcaaGreatJ21
import Derived.Test.YtbpnioehmohbcaaGreatJ27
import Derived.Test.YtbpnioehmohbcaaGreatJ29
import Derived.Test.YtbpnioehmohbcaaGreatJ30
import Derived.Test.YtbpnioehmohbcaaGreatJ26
import Derived.Test.YtbpnioehmohbcaaGreatJ12
import Derived.Test.YtbpnioehmohbcaaGreatJ15
import Derived.Test.YtbpnioehmohbcaaGreatJ14
namespace Go.Proofs.YtbpnioehmohbcaaGreat
theorem rdS_ok (s:Txt) (hs:s.length ≤ 1000000) (h0:(wrdA s).2.2 = 0):StOk (rdS s):=by
 have hI:=rdS_inv s (P:=fun x => x.2.2.length ≤ 1000000) (Nat.zero_le _) (fun x hx => Nat.le_trans ((wsE_words s).1 x hx) hs)
 have hA:=rdS_ia s
 have hp:(rdS s).pot ≤ 80000:=by
  refine Nat.le_trans (items_pot _ _) ?_
  rw [init_pot]
  have:=wrdA_len s h0
  unfold wsE
  rw [List.length_append,List.length_singleton]
  omega
 have hl:(rdS s).rules.length + (rdS s).nonts.length + (rdS s).prods.length + (rdS s).skips.length + (rdS s).terms.length + (rdS s).nons.length + (rdS s).later.length + (rdS s).levels + (rdS s).starts ≤ 80000:=by
  unfold RS.pot RS.lens at hp
  omega
 refine ⟨⟨by omega,by omega,by omega,hI.sk,hI.te,hI.no⟩,fun x hx => (hI.la x hx).1,fun x hx => (hI.la x hx).2,fun t => ?_,fun l hl' => ?_,by omega,by omega,by omega⟩
 · rw [hA.trm]
   have:=(fnd_good (rdS s) t).1
   omega
 · have:=hI.pr l hl'
   omega
end Go.Proofs.YtbpnioehmohbcaaGreat
namespace Go.Proofs.YtbpnioehmohbcaaGreat
open Go.RowKit Go.Maps
abbrev put5 (V:World) (R:Nat) (v0 v1 v2 v3 v4:Value):World:=((((V.setCell ⟨R,0,none⟩ v0).setCell ⟨R,1,none⟩ v1).setCell ⟨R,2,none⟩ v2).setCell ⟨R,3,none⟩ v3).setCell ⟨R,4,none⟩ v4
theorem kept5 (V:World) (R:Nat) (v0 v1 v2 v3 v4:Value):Kept (oneBlk R) V (put5 V R v0 v1 v2 v3 v4):=
 (((((Kept.refl (oneBlk R) V).setCell (a:=⟨R,0,none⟩) (fun _ => rfl)).setCell (a:=⟨R,1,none⟩) (fun _ => rfl)).setCell (a:=⟨R,2,none⟩) (fun _ => rfl)).setCell (a:=⟨R,3,none⟩) (fun _ => rfl)).setCell (a:=⟨R,4,none⟩) (fun _ => rfl)
theorem below5 {V w:World} {R:Nat} (h:Below w.heap.size w V) (hR:w.heap.size ≤ R) (v0 v1 v2 v3 v4:Value):Below w.heap.size w (put5 V R v0 v1 v2 v3 v4):=
 bl_set (bl_set (bl_set (bl_set (bl_set h _ _ _ hR) _ _ _ hR) _ _ _ hR) _ _ _ hR) _ _ _ hR
theorem Chg.low {T:Nat → Nat} {w V:World} (h:Chg (fun _ => 0) T w V):Below w.heap.size w V:=(h.kept.mono (G:=noBlk) (fun _ _ e => absurd rfl e.1)).none
theorem PaF.good {s:Txt} {w V:World} {rb:Nat} (h:PaF s w rb V) (he:(rdS s).settle.err = 0):∃ ra rc na nc la lc pa pc,V.heap[w.heap.size]? = some gm0 ∧ V.cell? ⟨rb,1,none⟩ = some (.slice ra (prsG s).rules.length rc) ∧ V.cell? ⟨rb,2,none⟩ = some (.slice na (prsG s).nonts.length nc) ∧ V.cell? ⟨rb,3,none⟩ = some (.slice la (prsG s).levels.length lc) ∧ V.cell? ⟨rb,4,none⟩ = some (.slice pa (prsG s).prods.length pc) ∧ V.cell? ⟨rb,5,none⟩ = some (.int .i64 (prsG s).start) ∧ V.cell? ⟨rb,17,none⟩ = some (.int .i64 0) ∧
 GmV (put5 V w.heap.size (.slice ra (prsG s).rules.length rc) (.slice na (prsG s).nonts.length nc) (.slice la (prsG s).levels.length lc) (.slice pa (prsG s).prods.length pc) (.int .i64 (prsG s).start)) (.slice ra (prsG s).rules.length rc) (.slice na (prsG s).nonts.length nc) (.slice la (prsG s).levels.length lc) (.slice pa (prsG s).prods.length pc) (prsG s) ∧ Below w.heap.size w (put5 V w.heap.size (.slice ra (prsG s).rules.length rc) (.slice na (prsG s).nonts.length nc) (.slice la (prsG s).levels.length lc) (.slice pa (prsG s).prods.length pc) (.int .i64 (prsG s).start)):=by
 obtain ⟨ra,rc,na,nc,la,lc,pa,pc,T,X,rs,mp,⟨c0,c1,c2,c3,c4,c5,-,c7⟩,e1,e2,e4,hr,hc,hT⟩:=h.out
 rw [he] at c7
 refine ⟨ra,rc,na,nc,la,lc,pa,pc,c0,c1,c2,c3,c4,c5,c7,?_,below5 hc.low (Nat.le_refl _) _ _ _ _ _⟩
 have h9:=(hr.wrote (kept5 V w.heap.size (.slice ra (prsG s).rules.length rc) (.slice na (prsG s).nonts.length nc) (.slice la (prsG s).levels.length lc) (.slice pa (prsG s).prods.length pc) (.int .i64 (prsG s).start)) hT).gm (setL_err _ _ _ he)
 rw [e1,e2,e4] at h9
 exact h9
theorem PaF.fault {s:Txt} {w V:World} {rb:Nat} (h:PaF s w rb V):V.heap[w.heap.size]? = some gm0 ∧ V.cell? ⟨rb,16,none⟩ = some (.int .i64 ((rdS s).settle.pl:Int)) ∧ V.cell? ⟨rb,17,none⟩ = some (.int .i64 (rdS s).settle.err) ∧ (put5 V w.heap.size (.slice none 0 0) (.slice none 0 0) (.slice none 0 0) (.slice none 0 0) (.int .i64 0)).cell? ⟨rb,16,none⟩ = some (.int .i64 ((rdS s).settle.pl:Int)) ∧ (put5 V w.heap.size (.slice none 0 0) (.slice none 0 0) (.slice none 0 0) (.slice none 0 0) (.int .i64 0)).cell? ⟨rb,17,none⟩ = some (.int .i64 (rdS s).settle.err) ∧ Below w.heap.size w (put5 V w.heap.size (.slice none 0 0) (.slice none 0 0) (.slice none 0 0) (.slice none 0 0) (.int .i64 0)):=by
 obtain ⟨ra,rc,na,nc,la,lc,pa,pc,T,X,rs,mp,⟨c0,c1,c2,c3,c4,c5,c6,c7⟩,e1,e2,e4,hr,hc,hT⟩:=h.out
 have h9:=hr.wrote (kept5 V w.heap.size (.slice none 0 0) (.slice none 0 0) (.slice none 0 0) (.slice none 0 0) (.int .i64 0)) hT
 exact ⟨c0,c6,c7,blk_cell h9.blk rfl,blk_cell h9.blk rfl,below5 hc.low (Nat.le_refl _) _ _ _ _ _⟩
set_option maxRecDepth 20000 in
theorem parseP (s:Txt) (w:World) (hs:s.length ≤ 1000000) (h0:(wrdA s).2.2 = 0) :
 ∀ u v,WdM (w.alloc gm0) u v (wrdA s).1 → ∃ A n C u6,(Builtin.append_ #[59,59] 59 #[v,.slice (some ⟨u.heap.size,0,none⟩) 1 1]).run Tryz.prog (u.alloc (.cells #[.int .i64 0,.int .i64 ((strT s).size:Int),.string ⟨#[]⟩] 63)) = .ok (.slice A n C) u6 ∧
  Calls Tryz.prog 36 #[ptr0 u6.heap.size] (u6.alloc (.cells #[.slice A n C,.slice none 0 0,.slice none 0 0,.slice none 0 0,.slice none 0 0,.int .i64 0,.int .i64 0,.int .i64 0,.slice none 0 0,.slice none 0 0,.slice none 0 0,.int .u32 0,.int .i32 0,.int .u32 0,.map none,.slice none 0 0,.int .i64 0,.int .i64 0] 81)) fun r u => r = .returned (.tuple #[]) ∧ Calls Tryz.prog 37 #[ptr0 u6.heap.size] u fun r V => r = .returned (.tuple #[]) ∧ PaF s w u6.heap.size V:=fun u v hW => by
 have hsz:=strT_size s
 obtain ⟨A,C,u6,h1,T,X,hr,hc,hT,hR⟩:=parseA s w hs h0 u v hW
 rw [hsz]
 exact ⟨A,_,C,u6,h1,parseT s w hs h0 (rdS_ok s hs h0) hr hc hT hR⟩
set_option maxRecDepth 20000 in
set_option maxHeartbeats 8000000 in
theorem parseGood12 (s:Txt) (w:World) (hs:s.length ≤ 1000000) (h0:(wrdA s).2.2 = 0) (he:(rdS s).settle.err = 0) :
 Calls Tryz.prog 24 #[.string (strT s)] w fun e w' => ∃ rv nv lv pv,e = .returned (.tuple #[gmA rv nv lv pv (prsG s).start,.int .i64 0,.int .i64 0]) ∧ GmV w' rv nv lv pv (prsG s) ∧ Below w.heap.size w w':=by
 have hP:=hid (parseP s w hs h0)
 obtain ⟨W,hW⟩:∃ y,w.alloc gm0 = y:=⟨_,rfl⟩
 rw [hW] at hP
 have G:=hid (allC s W (by omega))
 rw [h0] at G
 have hfin:=hid (fun rb V (h:PaF s w rb V) => h.good he)
 clear he h0
 generalize (wrdA s).1 = l at *
 generalize (wrdA s).2.1 = ap at *
 generalize strT s = S at *
 go_enter Tryz.func24,Tryz.ntmps24
 go_wp2_with (first
  | (go_at_call 35;refine G.out.mono ?_;clear G;rintro e u ⟨v,rfl,hM⟩;obtain ⟨A,n,C,u6,hrun,hI⟩:=hP.out u v hM;clear hP hM;have hI:=hid hI)
  | (at_builtin;refine wp_run _ rfl _ _ _ rfl _ _ rfl rfl hrun ?_;clear hrun)
  | (go_at_call 36;refine hI.out.mono ?_;clear hI;rintro e u7 ⟨rfl,hI2⟩;have hI2:=hid hI2)
  | (go_at_call 37;refine hI2.out.mono ?_;clear hI2;rintro e V ⟨rfl,hF⟩;obtain ⟨ra,rc,na,nc,la,lc,pa,pc,c0,c1,c2,c3,c4,c5,c7,hG,hB⟩:=hfin.out _ _ hF;clear hfin hF;have hG:=hid hG;have hB:=hid hB;obtain ⟨⟨q0,q1⟩,⟨q2,q3⟩,⟨q4,q5⟩,⟨q6,q7⟩,⟨q8,q9⟩,q10⟩:=putT5 c0 (.slice ra (prsG s).rules.length rc) (.slice na (prsG s).nonts.length nc) (.slice la (prsG s).levels.length lc) (.slice pa (prsG s).prods.length pc) (.int .i64 (prsG s).start);obtain ⟨y0,y1,y2,y3,y4⟩:=cells5m q10;clear q10 c0))
 refine bodyPost_ret (v:=.tuple #[gmA (.slice ra (prsG s).rules.length rc) (.slice na (prsG s).nonts.length nc) (.slice la (prsG s).levels.length lc) (.slice pa (prsG s).prods.length pc) (prsG s).start,.int .i64 0,.int .i64 0]) (by simp [results,Tryz.results24,go_sem,y0,y1,y2,y3,y4]) rfl ⟨_,_,_,_,rfl,hG.out,hB.out⟩
set_option maxRecDepth 20000 in
set_option maxHeartbeats 8000000 in
theorem parseFault12 (s:Txt) (w:World) (hs:s.length ≤ 1000000) (h0:(wrdA s).2.2 = 0) (he:(rdS s).settle.err ≠ 0) :
 Calls Tryz.prog 24 #[.string (strT s)] w fun e w' => e = .returned (.tuple #[gmZ,.int .i64 ((rdS s).settle.pl:Int),.int .i64 (rdS s).settle.err]) ∧ Below w.heap.size w w':=by
 have hP:=hid (parseP s w hs h0)
 obtain ⟨W,hW⟩:∃ y,w.alloc gm0 = y:=⟨_,rfl⟩
 rw [hW] at hP
 have G:=hid (allC s W (by omega))
 rw [h0] at G
 have hfin:=hid (fun rb V (h:PaF s w rb V) => h.fault)
 have hez:((rdS s).settle.err != 0) = true:=bne_iff_ne.2 he
 clear he h0
 generalize (wrdA s).1 = l at *
 generalize (wrdA s).2.1 = ap at *
 generalize strT s = S at *
 generalize (rdS s).settle.err = er at *
 generalize (rdS s).settle.pl = pl at *
 go_enter Tryz.func24,Tryz.ntmps24
 go_wp2_with (first
  | (go_at_call 35;refine G.out.mono ?_;clear G;rintro e u ⟨v,rfl,hM⟩;obtain ⟨A,n,C,u6,hrun,hI⟩:=hP.out u v hM;clear hP hM;have hI:=hid hI)
  | (at_builtin;refine wp_run _ rfl _ _ _ rfl _ _ rfl rfl hrun ?_;clear hrun)
  | (go_at_call 36;refine hI.out.mono ?_;clear hI;rintro e u7 ⟨rfl,hI2⟩;have hI2:=hid hI2)
  | (go_at_call 37;refine hI2.out.mono ?_;clear hI2;rintro e V ⟨rfl,hF⟩;obtain ⟨c0,c6,c7,d6,d7,hB⟩:=hfin.out _ _ hF;clear hfin hF;have hB:=hid hB;obtain ⟨⟨q0,q1⟩,⟨q2,q3⟩,⟨q4,q5⟩,⟨q6,q7⟩,⟨q8,q9⟩,q10⟩:=putT5 c0 (.slice none 0 0) (.slice none 0 0) (.slice none 0 0) (.slice none 0 0) (.int .i64 0);obtain ⟨y0,y1,y2,y3,y4⟩:=cells5m q10;clear q10 c0))
 go_region
 all_goals
  go_wp2
  refine bodyPost_ret (v:=.tuple #[gmZ,.int .i64 (pl:Int),.int .i64 er]) (by simp [results,Tryz.results24,go_sem,y0,y1,y2,y3,y4]) rfl ⟨rfl,hB.out.drew⟩
end Go.Proofs.YtbpnioehmohbcaaGreat
namespace Go.Proofs.YtbpnioehmohbcaaGreat
open Go.RowKit Go.Maps
end Go.Proofs.YtbpnioehmohbcaaGreat
namespace Go.Proofs.YtbpnioehmohbcaaGreat
open Go.RowKit Go.Maps
structure Fits12 (g:Gm):Prop where
 rules:g.rules.length ≤ 40
 nonts:g.nonts.length ≤ 40
 levels:g.levels.length ≤ 100
 prods:g.prods.length ≤ 60
 rule:∀ j (h:j < g.rules.length),g.rules[j].re.length ≤ 100 ∧ g.rules[j].name.length ≤ 100
 nont:∀ j (h:j < g.nonts.length),g.nonts[j].length ≤ 100
 prod:∀ j (h:j < g.prods.length),g.prods[j].right.length ≤ 30
def LngA (g:Gm) (w:World) (e:Ending) (w':World):Prop:=∃ b,e = .returned (.bool b) ∧ (b = false ↔ Fits12 g) ∧ Below w.heap.size w w'
theorem LngA.yes {g:Gm} {w w':World} (h:Below w.heap.size w w') (hf:¬ Fits12 g):LngA g w (.returned (.bool true)) w':=⟨true,rfl,⟨fun h => (by cases h),fun h => absurd h hf⟩,h⟩
theorem LngA.no {g:Gm} {w w':World} (h:Below w.heap.size w w') (hf:Fits12 g):LngA g w (.returned (.bool false)) w':=⟨false,rfl,⟨fun _ => hf,fun _ => rfl⟩,h⟩
set_option maxRecDepth 20000 in
set_option maxHeartbeats 2000000 in
theorem long12 (rv nv lv pv:Value) (g:Gm) (w:World) (h:GmV w rv nv lv pv g) :
 Calls Tryz.prog 9 #[gmA rv nv lv pv g.start] w (LngA g w):=by
 obtain ⟨a,c,rfl⟩:=h.rules.shape
 obtain ⟨na,nc,rfl⟩:=h.nonts.shape
 obtain ⟨la,lc,rfl⟩:=h.levels.shape
 obtain ⟨pa,pc,rfl⟩:=h.prods.shape
 have hV:=hid h
 clear h
 obtain ⟨st,hst⟩:∃ x,g.start = x:=⟨_,rfl⟩
 rw [hst]
 obtain ⟨n,hn⟩:∃ n,Hid (g.rules.length = n):=⟨_,hid rfl⟩
 obtain ⟨nn,hnn⟩:∃ n,Hid (g.nonts.length = n):=⟨_,hid rfl⟩
 obtain ⟨nl,hnl⟩:∃ n,Hid (g.levels.length = n):=⟨_,hid rfl⟩
 obtain ⟨np,hnp⟩:∃ n,Hid (g.prods.length = n):=⟨_,hid rfl⟩
 rw [hn.out,hnn.out,hnl.out,hnp.out] at hV ⊢
 obtain ⟨W1,hW1⟩:∃ x,w.alloc (.cells #[.slice a n c,.slice na nn nc,.slice la nl lc,.slice pa np pc,.int .i64 st] 27) = x:=⟨_,rfl⟩
 have hB1:Hid (Below w.heap.size w W1):=by rw [← hW1];exact hid (al' w _)
 have hk1:Hid (W1.heap[w.heap.size]? = some (.cells #[.slice a n c,.slice na nn nc,.slice la nl lc,.slice pa np pc,.int .i64 st] 27)):=by rw [← hW1];exact hid (heap_new w _)
 have y0:W1.cell? ⟨w.heap.size,0,none⟩ = some (.slice a n c):=blk_cell hk1.out rfl
 have y1:W1.cell? ⟨w.heap.size,1,none⟩ = some (.slice na nn nc):=blk_cell hk1.out rfl
 have y2:W1.cell? ⟨w.heap.size,2,none⟩ = some (.slice la nl lc):=blk_cell hk1.out rfl
 have y3:W1.cell? ⟨w.heap.size,3,none⟩ = some (.slice pa np pc):=blk_cell hk1.out rfl
 have hV1:=hid (hV.out.keep hB1.out)
 clear hV hk1 hst
 by_cases hbig:n ≤ 40 ∧ nn ≤ 40 ∧ nl ≤ 100 ∧ np ≤ 60
 · obtain ⟨b1,b2,b3,b4⟩:=hbig
   have c1:¬ (40:Int) < (n:Int):=by omega
   have c2:¬ (40:Int) < (nn:Int):=by omega
   have c3:¬ (100:Int) < (nl:Int):=by omega
   have c4:¬ (60:Int) < (np:Int):=by omega
   go_enter Tryz.func9,Tryz.ntmps9
   go_wp2
   clear hW1 c1 c2 c3 c4
   go_loopw [31] (fun i wr => ∃ k:Nat,k ≤ n ∧ i = .int .i64 (k:Int) ∧ Hid (∀ j (h:j < g.rules.length),j < k → g.rules[j].re.length ≤ 100 ∧ g.rules[j].name.length ≤ 100) ∧ wr = W1) (fun i _ => n - (intOf i).toNat)
   case atStart => exact ⟨0,Nat.zero_le _,rfl,hid (fun j _ hj => absurd hj (Nat.not_lt_zero _)),rfl⟩
   case round =>
    obtain ⟨k,hk,rfl,hS,hwr⟩:=hrel
    subst wr
    by_cases hlt:k < n
    · have hltz:(k:Int) < (n:Int):=by omega
      have hkl:k < g.rules.length:=by rw [hn.out];exact hlt
      obtain ⟨b,o,he,-,v,x0,x1,-,hC⟩:=hV1.out.rules.at hkl
      subst he
      obtain ⟨ra,rc,rfl,-⟩:=hC
      have hsz:=strT_size g.rules[k].name
      have hS1:Hid (g.rules[k].re.length ≤ 100 → g.rules[k].name.length ≤ 100 → ∀ j (h:j < g.rules.length),j < k + 1 → g.rules[j].re.length ≤ 100 ∧ g.rules[j].name.length ≤ 100):=hid (fun p1 p2 j h hj => by
       rcases Nat.lt_or_ge j k with h8 | h8
       · exact hS.out j h h8
       · obtain rfl:j = k:=by omega
         exact ⟨p1,p2⟩)
      have hF1:Hid (100 < g.rules[k].re.length → ¬ Fits12 g):=hid (fun h9 h8 => absurd (h8.rule k hkl).1 (by omega))
      have hF2:Hid (100 < g.rules[k].name.length → ¬ Fits12 g):=hid (fun h9 h8 => absurd (h8.rule k hkl).2 (by omega))
      generalize g.rules[k].re.length = rl at *
      generalize g.rules[k].name = T at *
      by_cases h1:100 < rl
      · have h1z:(100:Int) < (rl:Int):=by omega
        clear hS1
        go_wp2
        go_ret
        exact LngA.yes hB1.out (hF1.out h1)
      · have h1z:¬ (100:Int) < (rl:Int):=by omega
        by_cases h2:100 < T.length
        · have h2z:(100:Int) < (T.length:Int):=by omega
          clear hS1
          go_wp2
          go_ret
          exact LngA.yes hB1.out (hF2.out h2)
        · have h2z:¬ (100:Int) < (T.length:Int):=by omega
          have hS2:=hid (hS1.out (by omega) (by omega))
          clear hS1
          go_wp2
          go_roundw
          case rel => exact ⟨k + 1,by omega,by go_num,hS2,by first | rfl | trivial⟩
          case measure => simp [intOf];omega
    · have hltz:¬ (k:Int) < (n:Int):=by omega
      obtain rfl:k = n:=by omega
      go_wp2
      have hS9:=hid (fun j (h:j < g.rules.length) => hS.out j h (by rw [← hn.out];exact h))
      clear hS hlt hltz hk
      go_loopw [56] (fun i wr => ∃ q:Nat,q ≤ nn ∧ i = .int .i64 (q:Int) ∧ Hid (∀ j (h:j < g.nonts.length),j < q → g.nonts[j].length ≤ 100) ∧ wr = W1) (fun i _ => nn - (intOf i).toNat)
      case atStart => exact ⟨0,Nat.zero_le _,rfl,hid (fun j _ hj => absurd hj (Nat.not_lt_zero _)),by first | rfl | trivial⟩
      case round =>
       obtain ⟨q,hk,rfl,hS,hwr⟩:=hrel
       subst wr
       by_cases hlt:q < nn
       · have hltz:(q:Int) < (nn:Int):=by omega
         have hkl:q < g.nonts.length:=by rw [hnn.out];exact hlt
         obtain ⟨b,o,he,-,x0⟩:=hV1.out.nonts.at hkl
         subst he
         rw [Nat.mul_one] at x0
         unfold TxtAt at x0
         have hsz:=strT_size g.nonts[q]
         have hS1:Hid (g.nonts[q].length ≤ 100 → ∀ j (h:j < g.nonts.length),j < q + 1 → g.nonts[j].length ≤ 100):=hid (fun p1 j h hj => by
          rcases Nat.lt_or_ge j q with h8 | h8
          · exact hS.out j h h8
          · obtain rfl:j = q:=by omega
            exact p1)
         have hF1:Hid (100 < g.nonts[q].length → ¬ Fits12 g):=hid (fun h9 h8 => absurd (h8.nont q hkl) (by omega))
         generalize g.nonts[q] = T at *
         by_cases h2:100 < T.length
         · have h2z:(100:Int) < (T.length:Int):=by omega
           clear hS1
           go_wp2
           go_ret
           exact LngA.yes hB1.out (hF1.out h2)
         · have h2z:¬ (100:Int) < (T.length:Int):=by omega
           have hS2:=hid (hS1.out (by omega))
           clear hS1
           go_wp2
           go_roundw
           case rel => exact ⟨q + 1,by omega,by go_num,hS2,by first | rfl | trivial⟩
           case measure => simp [intOf];omega
       · have hltz:¬ (q:Int) < (nn:Int):=by omega
         obtain rfl:q = nn:=by omega
         go_wp2
         have hN9:=hid (fun j (h:j < g.nonts.length) => hS.out j h (by rw [← hnn.out];exact h))
         clear hS hlt hltz hk
         go_loopw [70] (fun i wr => ∃ r:Nat,r ≤ np ∧ i = .int .i64 (r:Int) ∧ Hid (∀ j (h:j < g.prods.length),j < r → g.prods[j].right.length ≤ 30) ∧ wr = W1) (fun i _ => np - (intOf i).toNat)
         case atStart => exact ⟨0,Nat.zero_le _,rfl,hid (fun j _ hj => absurd hj (Nat.not_lt_zero _)),by first | rfl | trivial⟩
         case round =>
          obtain ⟨r,hk,rfl,hS,hwr⟩:=hrel
          subst wr
          by_cases hlt:r < np
          · have hltz:(r:Int) < (np:Int):=by omega
            have hkl:r < g.prods.length:=by rw [hnp.out];exact hlt
            obtain ⟨b,o,he,-,v,-,x1,-,hC⟩:=hV1.out.prods.at hkl
            subst he
            obtain ⟨ra,rc,rfl,-⟩:=hC
            have hS1:Hid (g.prods[r].right.length ≤ 30 → ∀ j (h:j < g.prods.length),j < r + 1 → g.prods[j].right.length ≤ 30):=hid (fun p1 j h hj => by
             rcases Nat.lt_or_ge j r with h8 | h8
             · exact hS.out j h h8
             · obtain rfl:j = r:=by omega
               exact p1)
            have hF1:Hid (30 < g.prods[r].right.length → ¬ Fits12 g):=hid (fun h9 h8 => absurd (h8.prod r hkl) (by omega))
            generalize g.prods[r].right.length = rl at *
            by_cases h2:30 < rl
            · have h2z:(30:Int) < (rl:Int):=by omega
              clear hS1
              go_wp2
              go_ret
              exact LngA.yes hB1.out (hF1.out h2)
            · have h2z:¬ (30:Int) < (rl:Int):=by omega
              have hS2:=hid (hS1.out (by omega))
              clear hS1
              go_wp2
              go_roundw
              case rel => exact ⟨r + 1,by omega,by go_num,hS2,by first | rfl | trivial⟩
              case measure => simp [intOf];omega
          · have hltz:¬ (r:Int) < (np:Int):=by omega
            obtain rfl:r = np:=by omega
            have hfit:Hid (Fits12 g):=hid ⟨by rw [hn.out];exact b1,by rw [hnn.out];exact b2,by rw [hnl.out];exact b3,by rw [hnp.out];exact b4,hS9.out,hN9.out,fun j h => hS.out j h (by rw [← hnp.out];exact h)⟩
            go_wp2
            go_ret
            exact LngA.no hB1.out hfit.out
 · have hb':(40:Int) < (n:Int) ∨ (¬ (40:Int) < (n:Int) ∧ (40:Int) < (nn:Int)) ∨ (¬ (40:Int) < (n:Int) ∧ ¬ (40:Int) < (nn:Int) ∧ (100:Int) < (nl:Int)) ∨ (¬ (40:Int) < (n:Int) ∧ ¬ (40:Int) < (nn:Int) ∧ ¬ (100:Int) < (nl:Int) ∧ (60:Int) < (np:Int)):=by omega
   have hNF:Hid (¬ Fits12 g):=hid (fun h9 => hbig ⟨by rw [← hn.out];exact h9.rules,by rw [← hnn.out];exact h9.nonts,by rw [← hnl.out];exact h9.levels,by rw [← hnp.out];exact h9.prods⟩)
   clear hbig
   rcases hb' with c1 | ⟨c1,c2⟩ | ⟨c1,c2,c3⟩ | ⟨c1,c2,c3,c4⟩
   · go_enter Tryz.func9,Tryz.ntmps9
     go_wp2
     go_ret
     exact LngA.yes hB1.out hNF.out
   · go_enter Tryz.func9,Tryz.ntmps9
     go_wp2
     go_ret
     exact LngA.yes hB1.out hNF.out
   · go_enter Tryz.func9,Tryz.ntmps9
     go_wp2
     go_ret
     exact LngA.yes hB1.out hNF.out
   · go_enter Tryz.func9,Tryz.ntmps9
     go_wp2
     go_ret
     exact LngA.yes hB1.out hNF.out
set_option maxRecDepth 20000 in
theorem longYes (rv nv lv pv:Value) (g:Gm) (w:World) (h:GmV w rv nv lv pv g) (hf:¬ Fits12 g):Calls Tryz.prog 9 #[gmA rv nv lv pv g.start] w fun e w' => e = .returned (.bool true) ∧ Below w.heap.size w w':=
 (long12 rv nv lv pv g w h).mono (by
  rintro e w' ⟨b,rfl,hb,hw⟩
  cases b with
  | true => exact ⟨rfl,hw⟩
  | false => exact absurd (hb.1 rfl) hf)
set_option maxRecDepth 20000 in
theorem longNo (rv nv lv pv:Value) (g:Gm) (w:World) (h:GmV w rv nv lv pv g) (hf:Fits12 g):Calls Tryz.prog 9 #[gmA rv nv lv pv g.start] w fun e w' => e = .returned (.bool false) ∧ Below w.heap.size w w':=
 (long12 rv nv lv pv g w h).mono (by
  rintro e w' ⟨b,rfl,hb,hw⟩
  rw [hb.2 hf]
  exact ⟨rfl,hw⟩)
end Go.Proofs.YtbpnioehmohbcaaGreat
