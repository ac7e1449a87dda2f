/- topiarylaw15.wakes. Package first is what is asked of it. A grammar that is handed in, opened. The reference of layer 15: Behind, step by step; what is behind a place. -/
import Derived.Test.YtfhokapfkclckaaGreatK31
import Derived.Test.YtfhokapfkclckaaGreatK32
import Derived.Test.YtfhokapfkclckaaGreatK36
import Derived.Test.YtfhokapfkclckaaGreatK48
import Derived.Test.YtfhokapfkclckaaGreatK15
import Derived.Test.YtfhokapfkclckaaGreatK19
import Derived.Test.YtfhokapfkclckaaGreatK20
import Derived.Deep.Strs
namespace Go.Proofs.YtfhokapfkclckaaGreat
open Go.RowKit Go.Maps Go.Sort
def exF:Txt:=[116,111,107,101,110,32,97,32,47,97,47,59,32,116,111,107,101,110,32,98,32,47,98,47,59,32,115,58,32,120,32,97,59,32,120,58,32,98,32,124,32,59]
theorem exF_words:(wrdA exF).2.2 = 0:=by decide +kernel
theorem exF_err:(rdS exF).settle.err = 0:=by decide +kernel
theorem exF_prs:prs exF = some (prsG exF):=prs_of exF_words exF_err
theorem exF_snd:SndG (prsG exF):=prs_sndG exF_prs
theorem exF_all:(prsG exF).all = 4:=by decide +kernel
theorem exF_van:nulL (prsG exF) = [4]:=by decide +kernel
theorem exF_fir:firL (prsG exF) [3] = [1,2]:=by decide +kernel
theorem exF_gone:goneB (nulL (prsG exF)) [3] = false:=by rw [exF_van];decide
theorem exF_beh:atB (behL (prsG exF)) 4 = [1]:=by decide +kernel
theorem snd_names15 {g:Gm} (h:SndG g):∀ t ∈ g.allN,t.length ≤ 1000000:=fun t ht => by
 have:=h.named t ht
 unfold namB at this
 simp only [Bool.and_eq_true,decide_eq_true_eq] at this
 have:=this.1.1.1
 omega
set_option maxRecDepth 20000 in
set_option maxHeartbeats 16000000 in
theorem wkOK15:WkOK15:=⟨fun w => by
 have P1:=hid (prsOK.yes exF (prsG exF) w (by decide) exF_prs)
 rw [show strT exF = ⟨#[116,111,107,101,110,32,97,32,47,97,47,59,32,116,111,107,101,110,32,98,32,47,98,47,59,32,115,58,32,120,32,97,59,32,120,58,32,98,32,124,32,59]⟩ from rfl] at P1
 have hbn:BndG (prsG exF):=prsOK.bnd _ _ exF_prs
 have hnm:=snd_names15 exF_snd
 have GO:=hid (fun rv nv lv pv tv u (h:GmV u rv nv lv pv (prsG exF)) (ht:Nums u tv [3]) => ofYesP (prsG exF) exF_snd rv nv lv pv tv [3] u h hbn hnm ht (by decide))
 have GB:=hid (fun rv nv lv pv u (h:GmV u rv nv lv pv (prsG exF)) => behindP (prsG exF) exF_snd rv nv lv pv u h hbn hnm)
 have GV:=hid (fun rv nv lv pv u (h:GmV u rv nv lv pv (prsG exF)) => vanishP (prsG exF) rv nv lv pv u h hbn hnm)
 have GO:Hid (∀ rv nv lv pv tv u,GmV u rv nv lv pv (prsG exF) → Nums u tv [3] → Calls Tryz.prog 14 #[gmA rv nv lv pv (prsG exF).start,tv] u fun e w' => ∃ v,e = .returned (.tuple #[v,.bool false]) ∧ Nums w' v [1,2] ∧ Below u.heap.size u w'):=hid (fun rv nv lv pv tv u h ht => (GO.out rv nv lv pv tv u h ht).mono (fun e w' => by
  rintro ⟨v,b,rfl,h1,-,hb⟩
  have hs:SymP (prsG exF) [3]:=fun n hn => by
   rw [List.mem_singleton] at hn
   rw [exF_all]
   omega
  obtain ⟨h2,rfl⟩:=h1 hs
  rw [exF_fir] at h2
  rw [exF_gone]
  exact ⟨v,rfl,h2,hb⟩))
 have GB:Hid (∀ rv nv lv pv u,GmV u rv nv lv pv (prsG exF) → Calls Tryz.prog 17 #[gmA rv nv lv pv (prsG exF).start] u fun e w' => ∃ hb y,e = .returned (.slice (some ⟨hb,0,none⟩) 5 5) ∧ w'.cell? ⟨hb,4,none⟩ = some y ∧ Nums w' y [1] ∧ Below u.heap.size u w'):=hid (fun rv nv lv pv u h => (GB.out rv nv lv pv u h).mono (fun e w' => by
  rintro ⟨hb,rfl,hR,hl⟩
  obtain ⟨y,a,b,-⟩:=hR.at (s:=4) (by rw [behL_len,exF_all];decide)
  rw [exF_beh] at b
  exact ⟨hb,y,by rw [exF_all],a,b,hl⟩))
 have GV:Hid (∀ rv nv lv pv u,GmV u rv nv lv pv (prsG exF) → Calls Tryz.prog 10 #[gmA rv nv lv pv (prsG exF).start] u fun e w' => ∃ v,e = .returned v ∧ Nums w' v [4] ∧ Below u.heap.size u w'):=hid (fun rv nv lv pv u h => (GV.out rv nv lv pv u h).mono (fun e w' => by
  rintro ⟨v,rfl,h1,-,hb⟩
  have h2:=h1 exF_snd
  rw [exF_van] at h2
  exact ⟨v,rfl,h2,hb⟩))
 clear hbn hnm
 have GS:Hid (∀ v v' (l:List Int) u,l.length ≤ 10 → Nums u v l → Nums u v' l → Calls Tryz.prog 12 #[v,v'] u fun e w' => e = .returned (.bool true) ∧ Below u.heap.size u w'):=hid (fun v v' l u hl h1 h2 => by
  have:=refSame v v' l l u (by omega) (by omega) h1 h2
  rw [decide_eq_true rfl] at this
  exact this)
 generalize prsG exF = g at *
 generalize hst:g.start = st at *
 clear hst
 go_enter Tryz.func8,Tryz.ntmps8
 go_wp2_with (first
  | (go_at_call 22;refine P1.out.mono ?_;clear P1;rintro e w1 ⟨rv,nv,lv,pv,rfl,hV,hc1⟩;obtain ⟨ra,rc,hre⟩:=hV.rules.shape;obtain ⟨na,nc,hne⟩:=hV.nonts.shape;obtain ⟨la,lc,hle⟩:=hV.levels.shape;obtain ⟨pa,pc,hpe⟩:=hV.prods.shape;subst hre hne hle hpe
     have hal:=al' w1 (.cells #[.slice ra g.rules.length rc,.slice na g.nonts.length nc,.slice la g.levels.length lc,.slice pa g.prods.length pc,.int .i64 st] 27);have hk1:=heap_new w1 (.cells #[.slice ra g.rules.length rc,.slice na g.nonts.length nc,.slice la g.levels.length lc,.slice pa g.prods.length pc,.int .i64 st] 27)
     have hq1:=hV.keep hal
     obtain ⟨W1,hW1⟩:∃ x,w1.alloc (.cells #[.slice ra g.rules.length rc,.slice na g.nonts.length nc,.slice la g.levels.length lc,.slice pa g.prods.length pc,.int .i64 st] 27) = x:=⟨_,rfl⟩
     rw [hW1] at hal hk1 hq1
     have hal3:=al' W1 (.cells #[.int .i64 3] 3)
     have hN3:=hid (Nums.of_row (Own.lit1 W1 3))
     have hq2:=hid (hq1.keep hal3)
     have hk2:=hid (hs_keep hk1 hal3)
     have hw1:=hid (bl_step (bl_step hc1 hal) hal3)
     obtain ⟨a0,a1,a2,a3,a4⟩:=cells5m hk1
     clear hc1 hal hV hk1 hq1 hal3)
  | (go_at_call 14;refine (GO.out _ _ _ _ _ _ hq2.out hN3.out).mono ?_;clear GO;rintro e w2 ⟨v2,rfl,hN2,hc2⟩;obtain ⟨v2a,v2c,e2⟩:=shapeN15 hN2;subst e2;have hN2:=hid hN2;have hq3:=hid (hq2.out.keep hc2);have hk3:=hid (hs_keep hk2.out hc2);have hw2:=hid (bl_step hw1.out hc2);clear hc2 a0 a1 a2 a3 a4;obtain ⟨a0,a1,a2,a3,a4⟩:=cells5m hk3.out)
  | (go_at_call 17;refine (GB.out _ _ _ _ _ hq3.out).mono ?_;clear GB;rintro e w3 ⟨hb,y,rfl,hy,hNy,hc3⟩;obtain ⟨ya,yc,e3⟩:=shapeN15 hNy;subst e3
     have hal:=al' w3 (.cells #[.int .i64 1,.int .i64 2] 3)
     have hL2:=hid (Nums.of_row (Own.lit2 w3 1 2))
     have hN4:=hid ((hN2.out.keep hc3).keep hal);have hNy:=hid (hNy.keep hal);have hy:=hid (keep_cell hal hy)
     have hq4:=hid ((hq3.out.keep hc3).keep hal);have hk4:=hid (hs_keep (hs_keep hk3.out hc3) hal);have hw3:=hid (bl_step (bl_step hw2.out hc3) hal)
     clear hc3 hal a0 a1 a2 a3 a4)
  | (go_at_call 12;refine (GS.out _ _ [1] _ (by decide) hN9.out hL9.out).mono ?_;rintro e w9 ⟨rfl,hc9⟩;have hw9:=hid (bl_step hw8.out hc9);clear hc9)
  | (go_at_call 12;refine (GS.out _ _ [4] _ (by decide) hN6.out hL6.out).mono ?_;rintro e w6 ⟨rfl,hc6⟩
     have hal:=al' w6 (.cells #[.int .i64 1] 3)
     have hL9:=hid (Nums.of_row (Own.lit1 w6 1))
     have y6:=keep_cell hc6 hy5.out
     have hN9:=hid ((hNy5.out.keep hc6).keep hal)
     have hw8:=hid (bl_step (bl_step hw5.out hc6) hal)
     clear hc6 hal)
  | (go_at_call 12;refine (GS.out _ _ [1,2] _ (by decide) hN4.out hL2.out).mono ?_;rintro e w4 ⟨rfl,hc4⟩;have hq5:=hid (hq4.out.keep hc4);have hk5:=hid (hs_keep hk4.out hc4);have hNy4:=hid (hNy.out.keep hc4);have hy4:=hid (keep_cell hc4 hy.out);have hw4:=hid (bl_step hw3.out hc4);clear hc4;obtain ⟨a0,a1,a2,a3,a4⟩:=cells5m hk5.out)
  | (go_at_call 10;refine (GV.out _ _ _ _ _ hq5.out).mono ?_;clear GV;rintro e w5 ⟨v5,rfl,hN5,hc5⟩;obtain ⟨v5a,v5c,e5⟩:=shapeN15 hN5;subst e5
     have hal:=al' w5 (.cells #[.int .i64 4] 3)
     have hL6:=hid (Nums.of_row (Own.lit1 w5 4))
     have hN6:=hid (hN5.keep hal);have hNy5:=hid ((hNy4.out.keep hc5).keep hal);have hy5:=hid (keep_cell hal (keep_cell hc5 hy4.out));have hw5:=hid (bl_step (bl_step hw4.out hc5) hal)
     clear hc5 hal a0 a1 a2 a3 a4))
 go_ret
 exact ⟨by simp,hw9.out⟩⟩
end Go.Proofs.YtfhokapfkclckaaGreat
namespace Go.Proofs.YtfhokapfkclckaaGreat
open Go.ChangeShapes Go.WideShapes Go.ChangeAt Go.RowKit
theorem strT_of (s:ByteArray):s = strT s.data.toList:=by obtain ⟨⟨l⟩⟩:=s;rfl
set_option maxRecDepth 20000 in
theorem lst_of_trod {α:Type} [Inhabited α] {sz:Nat} {R:World → Nat → Nat → α → Prop} {t e:TypeId} (ht:Tryz.prog.underlying t = some (.slice e)) (hc:Tryz.prog.cellsOf e = sz) (hz:0 < sz)
 {H:Type} {enc:TypeId × Value → H} {W:World}
 (hel:∀ (fuel:Nat) (cs:List Value) (x:DataW H × List MemPlace) (b o:Nat),DataW.trod enc Tryz.prog W 0 (fun _ => true) true fuel e cs = some x → cs.length = sz → (∀ j,j < sz → W.cell? ⟨b,o + j,none⟩ = cs[j]?) → ∃ y:α,R W b o y)
 {fuel:Nat} {cs:List Value} {x:DataW H × List MemPlace} (hf:DataW.trod enc Tryz.prog W 0 (fun _ => true) true fuel t cs = some x) :
 ∃ (l:List α) (v:Value),cs = [v] ∧ Lst sz R W v l ∧ l.length ≤ 9223372036854775807:=by
 rcases Deep.open_slice ht hf with ⟨hcs,_⟩ | ⟨a,len,cap,m,n,D,Pl,hcs,_,hl,hm,hmm,_,hx⟩
 · exact ⟨[],_,hcs,Lst.nil _,by simp⟩
 · have hm':m = cap:=by simpa using hmm
   unfold maxLen at hm
   rcases Nat.eq_zero_or_pos len with h0 | h0
   · subst h0
     exact ⟨[],_,hcs,⟨some a,cap,rfl,Nat.zero_le _,fun h => (by cases h),fun j hj => absurd hj (Nat.not_lt_zero _)⟩,by simp⟩
   have hpl:∃ b o,a = ⟨b,o,none⟩:=by
    obtain ⟨cs',hc',ht'⟩:=hx 0 (by omega)
    rw [hc] at hc'
    have hcl:=(World.cells?_some hc').2.1
    have hh:=(World.cells?_some hc').2.2 0 (by omega)
    rw [List.getElem?_eq_getElem (by omega)] at hh
    obtain ⟨b,off,spot⟩:=a
    have hspot:spot = none:=by simpa [Addr.add] using World.cell?_spot hh
    exact ⟨b,off,by rw [hspot]⟩
   obtain ⟨b,off,rfl⟩:=hpl
   have hone:∀ i,i < len → ∃ y:α,b < W.heap.size ∧ R W b (off + i * sz) y:=by
    intro i hi
    obtain ⟨cs',hc',ht'⟩:=hx i (by omega)
    rw [hc] at hc'
    have hcl:=(World.cells?_some hc').2.1
    have hh:=(World.cells?_some hc').2.2
    simp only [Go.WideShapes.add_plain] at hh
    obtain ⟨y,hy⟩:=hel _ _ _ b (off + i * sz) ht' hcl hh
    have h00:=hh 0 hz
    rw [List.getElem?_eq_getElem (by omega)] at h00
    exact ⟨y,World.block_lt_of_cell? _ _ h00,hy⟩
   obtain ⟨E,hE⟩:=Deep.choose_lt hone
   refine ⟨(List.range len).map E,_,by rw [hcs],⟨some ⟨b,off,none⟩,cap,by simp,by simp;omega,fun h => (by cases h),fun j hj => ?_⟩,by simp;omega⟩
   have hj':j < len:=by simpa using hj
   refine ⟨b,off,rfl,(hE j hj').1,?_⟩
   simp only [List.getElem_map,List.getElem_range]
   exact (hE j hj').2
instance:Inhabited Rl:=⟨⟨[],[],false⟩⟩
instance:Inhabited Pd:=⟨⟨0,[],0⟩⟩
set_option maxRecDepth 20000 in
theorem Tryz.cellsOfSt:Tryz.prog.cellsOf 9 = 1:=by kernel_rfl
set_option maxRecDepth 20000 in
theorem Tryz.cellsOfBo:Tryz.prog.cellsOf 4 = 1:=by kernel_rfl
set_option maxRecDepth 20000 in
theorem Tryz.cellsOfRl:Tryz.prog.cellsOf 49 = 3:=by kernel_rfl
set_option maxRecDepth 20000 in
theorem Tryz.cellsOfLv:Tryz.prog.cellsOf 53 = 2:=by kernel_rfl
set_option maxRecDepth 20000 in
theorem Tryz.cellsOfPd:Tryz.prog.cellsOf 43 = 3:=by kernel_rfl
set_option maxRecDepth 20000 in
theorem Tryz.cellsOfSR:Tryz.prog.cellsOf 22 = 1:=by kernel_rfl
set_option maxRecDepth 20000 in
theorem Tryz.cellsOfST:Tryz.prog.cellsOf 23 = 1:=by kernel_rfl
set_option maxRecDepth 20000 in
theorem Tryz.cellsOfSL:Tryz.prog.cellsOf 24 = 1:=by kernel_rfl
set_option maxRecDepth 20000 in
theorem Tryz.cellsOfSP:Tryz.prog.cellsOf 25 = 1:=by kernel_rfl
set_option maxRecDepth 20000 in
theorem Tryz.cellsOfGm:Tryz.prog.cellsOf 27 = 5:=by kernel_rfl
variable {H:Type} {enc:TypeId × Value → H} {W:World}
set_option maxRecDepth 20000 in
theorem rl_el (fuel:Nat) (cs:List Value) (x:DataW H × List MemPlace) (b o:Nat) (hf:DataW.trod enc Tryz.prog W 0 (fun _ => true) true fuel 49 cs = some x) (hl:cs.length = 3) (hc:∀ j,j < 3 → W.cell? ⟨b,o + j,none⟩ = cs[j]?):∃ y:Rl,RuleAt W b o y:=by
 obtain ⟨y0,y1,y2,m,_,_,t0,t1,t2⟩:=Deep.trod_struct3 Tryz.underlying49 hf
 match cs,hl with
 | [c0,c1,c2],_ =>
  obtain ⟨s,e0,_,_⟩:=DataW.trod_string Tryz.underlying9 t0
  obtain ⟨l,v,e1,hC⟩:=cels_of_trod t1
  obtain ⟨k,e2,_⟩:=DataW.trod_bool Tryz.underlying4 t2
  simp [Tryz.cellsOfSt,Tryz.cellsOfBo,Tryz.cellsOf47] at e0 e1 e2
  subst e0 e1 e2
  refine ⟨⟨s.data.toList,l,k⟩,c1,?_,hc 1 (by omega),hc 2 (by omega),hC⟩
  rw [← strT_of]
  exact hc 0 (by omega)
set_option maxRecDepth 20000 in
theorem tx_el (fuel:Nat) (cs:List Value) (x:DataW H × List MemPlace) (b o:Nat) (hf:DataW.trod enc Tryz.prog W 0 (fun _ => true) true fuel 9 cs = some x) (hl:cs.length = 1) (hc:∀ j,j < 1 → W.cell? ⟨b,o + j,none⟩ = cs[j]?):∃ y:Txt,TxtAt W b o y:=by
 obtain ⟨s,e0,_,_⟩:=DataW.trod_string Tryz.underlying9 hf
 subst e0
 refine ⟨s.data.toList,?_⟩
 unfold TxtAt
 rw [← strT_of]
 exact hc 0 (by omega)
set_option maxRecDepth 20000 in
theorem lv_el (fuel:Nat) (cs:List Value) (x:DataW H × List MemPlace) (b o:Nat) (hf:DataW.trod enc Tryz.prog W 0 (fun _ => true) true fuel 53 cs = some x) (hl:cs.length = 2) (hc:∀ j,j < 2 → W.cell? ⟨b,o + j,none⟩ = cs[j]?):∃ y:Int × Int,LevAt W b o y:=by
 obtain ⟨y0,y1,m,_,_,t0,t1⟩:=trod_struct2 Tryz.underlying53 hf
 match cs,hl with
 | [c0,c1],_ =>
  obtain ⟨p,e0,_,_⟩:=DataW.trod_int Tryz.underlying3 t0
  obtain ⟨q,e1,_,_⟩:=DataW.trod_int Tryz.underlying3 t1
  simp [Tryz.cellsOf3] at e0 e1
  subst e0 e1
  exact ⟨(p,q),hc 0 (by omega),hc 1 (by omega)⟩
set_option maxRecDepth 20000 in
theorem pd_el (fuel:Nat) (cs:List Value) (x:DataW H × List MemPlace) (b o:Nat) (hf:DataW.trod enc Tryz.prog W 0 (fun _ => true) true fuel 43 cs = some x) (hl:cs.length = 3) (hc:∀ j,j < 3 → W.cell? ⟨b,o + j,none⟩ = cs[j]?):∃ y:Pd,ProdAt W b o y:=by
 obtain ⟨y0,y1,y2,m,_,_,t0,t1,t2⟩:=Deep.trod_struct3 Tryz.underlying43 hf
 match cs,hl with
 | [c0,c1,c2],_ =>
  obtain ⟨p,e0,_,_⟩:=DataW.trod_int Tryz.underlying3 t0
  obtain ⟨l,v,e1,hC,_⟩:=nums_of_trod t1
  obtain ⟨q,e2,_,_⟩:=DataW.trod_int Tryz.underlying3 t2
  simp [Tryz.cellsOf3,Tryz.cellsOf30] at e0 e1 e2
  subst e0 e1 e2
  exact ⟨⟨p,l,q⟩,c1,hc 0 (by omega),hc 1 (by omega),hc 2 (by omega),hC⟩
set_option maxRecDepth 20000 in
theorem open_gram {v:Value} {d:DataW H} {q:List MemPlace} {base:Nat} (hv:Value.okWide Tryz.prog W .any base 27 v) (h:DataW.Trod enc Tryz.prog W 0 (fun _ => true) true 27 v d q) :
 ∃ (g:Gm) (rv nv lv pv:Value),v = .agg #[rv,nv,lv,pv,.int .i64 g.start] ∧ GmV W rv nv lv pv g:=by
 obtain ⟨cs,rfl,hcs⟩:=okWide_struct Tryz.underlying27 hv
 obtain ⟨fuel,hf⟩:=h
 rw [Tryz.cellsOfGm] at hcs
 obtain ⟨xs,n,_,_,hl,hlen,hfs⟩:=DataW.trod_struct Tryz.underlying27 hf
 have hce:Value.cells (.agg cs) = cs:=rfl
 rw [hce] at hfs
 obtain ⟨cl⟩:=cs
 match cl,hcs with
 | [c0,c1,c2,c3,c4],_ =>
  match xs,hlen with
  | [y0,y1,y2,y3,y4],_ =>
   have t0:DataW.trod enc Tryz.prog W 0 (fun _ => true) true n 22 [c0] = some y0:=by
    have h:=hfs 0 _ rfl
    simpa [Tryz.cellsOfSR] using h
   have t1:DataW.trod enc Tryz.prog W 0 (fun _ => true) true n 23 [c1] = some y1:=by
    have h:=hfs 1 _ rfl
    simpa [Tryz.cellsOfST] using h
   have t2:DataW.trod enc Tryz.prog W 0 (fun _ => true) true n 24 [c2] = some y2:=by
    have h:=hfs 2 _ rfl
    simpa [Tryz.cellsOfSL] using h
   have t3:DataW.trod enc Tryz.prog W 0 (fun _ => true) true n 25 [c3] = some y3:=by
    have h:=hfs 3 _ rfl
    simpa [Tryz.cellsOfSP] using h
   have t4:DataW.trod enc Tryz.prog W 0 (fun _ => true) true n 3 [c4] = some y4:=by
    have h:=hfs 4 _ rfl
    simpa [Tryz.cellsOf3] using h
   obtain ⟨R,v0,e0,hR,_⟩:=lst_of_trod Tryz.underlying22 Tryz.cellsOfRl (by omega) rl_el t0
   obtain ⟨N,v1,e1,hN,_⟩:=lst_of_trod Tryz.underlying23 Tryz.cellsOfSt (by omega) tx_el t1
   obtain ⟨L,v2,e2,hL,_⟩:=lst_of_trod Tryz.underlying24 Tryz.cellsOfLv (by omega) lv_el t2
   obtain ⟨P,v3,e3,hP,_⟩:=lst_of_trod Tryz.underlying25 Tryz.cellsOfPd (by omega) pd_el t3
   obtain ⟨s,e4,_,_⟩:=DataW.trod_int Tryz.underlying3 t4
   simp only [List.cons.injEq,and_true] at e0 e1 e2 e3 e4
   subst e0 e1 e2 e3 e4
   exact ⟨⟨R,N,L,P,s⟩,c0,c1,c2,c3,rfl,⟨hR,hN,hL,hP⟩⟩
end Go.Proofs.YtfhokapfkclckaaGreat
namespace Go.Proofs.YtfhokapfkclckaaGreat
open Go.RowKit Go.Maps Go.Sort
section
variable {g:Gm} {null live:List Int} {fir:List Int → List Int}
theorem bhN_stop {s:BhS} {i:Nat} (h:s.ends.length ≤ i):∀ f,bhN g null live fir f i s = s
 | 0 => rfl
 | f + 1 => by
  unfold bhN
  rw [List.getElem?_eq_none h]
theorem bhN_step {s:BhS} {i:Nat} {n:Int} (h:s.ends[i]? = some n) (f:Nat):bhN g null live fir (f + 1) i s = bhN g null live fir f (i + 1) (bhI g null live fir n s):=by
 conv => lhs;unfold bhN
 rw [h]
end
section
variable (g:Gm) (s0:Int)
def bhF:BhS:=bhN g (nulL g) (livL g) (firL g) (g.all + 1) 0 ⟨[s0],[]⟩
def BK1 (f i:Nat) (s:BhS):Prop:=f + i = g.all + 1 ∧ bhN g (nulL g) (livL g) (firL g) f i s = bhF g s0 ∧ BhI g (nulL g) (livL g) (firL g) s0 s
def BK2 (f i:Nat) (n:Int) (k:Nat) (s:BhS):Prop:=f + 1 + i = g.all + 1 ∧ s.ends[i]? = some n ∧ EndB g (nulL g) (livL g) s0 n ∧ bhN g (nulL g) (livL g) (firL g) f (i + 1) ((g.prods.drop k).foldl (bhP (nulL g) (livL g) (firL g) n) s) = bhF g s0 ∧ BhI g (nulL g) (livL g) (firL g) s0 s
def BK3 (f i:Nat) (n:Int) (k j:Nat) (s:BhS):Prop:=∃ hk:k < g.prods.length,f + 1 + i = g.all + 1 ∧ s.ends[i]? = some n ∧ EndB g (nulL g) (livL g) s0 n ∧ (livL g).contains g.prods[k].left = true ∧ bhN g (nulL g) (livL g) (firL g) f (i + 1) ((g.prods.drop (k + 1)).foldl (bhP (nulL g) (livL g) (firL g) n) (((List.range g.prods[k].right.length).drop j).foldl (bhJ (nulL g) (firL g) g.prods[k] n) s)) = bhF g s0 ∧ BhI g (nulL g) (livL g) (firL g) s0 s
end
section
variable {g:Gm} {s0:Int} {f i k j:Nat} {n:Int} {s:BhS}
theorem all_le32 (hg:SndG g):g.all ≤ 32:=by
 have h1:=hg.rules
 have h2:=hg.nonts
 have h3:=terms_le15 g
 unfold Gm.all
 omega
theorem EndB.range (hg:SndG g) {null live:List Int} (h1:1 ≤ s0) (h2:s0 ≤ (g.all:Int)) (h:EndB g null live s0 n):1 ≤ n ∧ n ≤ (g.all:Int):=by
 cases h with
 | self => exact ⟨h1,h2⟩
 | step p j hp _ _ _ _ =>
  have:=left_sym hg hp
  omega
theorem bhF_len (hg:SndG g) (s0:Int):(bhF g s0).all.length ≤ 700000:=by
 have h:=bhN_len (g:=g) (null:=nulL g) (live:=livL g) (fir:=firL g) (fun p hp j => firL_len hg (fun n hn => right_sym hg hp n (List.mem_of_mem_drop hn))) hg.prods (fun p hp => by
  have:=hg.prod _ hp
  unfold pdB at this
  simp only [Bool.and_eq_true,decide_eq_true_eq,List.all_eq_true] at this
  have:=this.1.1.1.2
  omega) (g.all + 1) 0 ⟨[s0],[]⟩
 have h9:=all_le32 hg
 unfold bhF
 exact Nat.le_trans h (Nat.le_trans (Nat.add_le_add_left (Nat.mul_le_mul_left 19201 (show g.all + 1 ≤ 33 by omega)) _) (show 0 + 19201 * 33 ≤ 700000 by decide))
theorem BhI.small (hg:SndG g) {null live:List Int} {fir:List Int → List Int} (h1:1 ≤ s0) (h2:s0 ≤ (g.all:Int)) (h:BhI g null live fir s0 s):s.ends.length ≤ g.all:=
 nodup_le g.all _ 0 h.once (fun n hn => by
  have:=(h.ends n hn).range hg h1 h2
  omega)
theorem BK1.start (h0:BhI g (nulL g) (livL g) (firL g) s0 ⟨[s0],[]⟩):BK1 g s0 (g.all + 1) 0 ⟨[s0],[]⟩:=⟨rfl,rfl,h0⟩
theorem bhI0 (g:Gm) (s0:Int):BhI g (nulL g) (livL g) (firL g) s0 ⟨[s0],[]⟩:=⟨fun n hn => by
 rw [List.mem_singleton] at hn
 subst hn
 exact .self,List.pairwise_singleton _ _,fun _ h => absurd h List.not_mem_nil⟩
theorem BK1.len (hg:SndG g) (h1:1 ≤ s0) (h2:s0 ≤ (g.all:Int)) (h:BK1 g s0 f i s):s.ends.length ≤ 32 ∧ s.all.length ≤ 700000:=by
 obtain ⟨-,h3,h4⟩:=h
 have h5:=(bhN_pre (g:=g) (null:=nulL g) (live:=livL g) (fir:=firL g) f i s).2
 have h6:=bhF_len hg s0
 have h7:=h4.small hg h1 h2
 have h8:=all_le32 hg
 rw [h3] at h5
 omega
theorem BK1.stop (h:BK1 g s0 f i s) (hi:s.ends.length ≤ i):s = bhF g s0:=by
 rw [← h.2.1,bhN_stop hi]
theorem BK1.go (hg:SndG g) (h1:1 ≤ s0) (h2:s0 ≤ (g.all:Int)) (h:BK1 g s0 f i s) (hi:i < s.ends.length):∃ f',f = f' + 1 ∧ BK2 g s0 f' i s.ends[i] 0 ⟨s.ends,s.all ++ if s.ends[i] = g.start then [0] else []⟩:=by
 obtain ⟨h3,h4,h5⟩:=h
 have h6:=h5.small hg h1 h2
 obtain ⟨f',rfl⟩:∃ f',f = f' + 1:=⟨f - 1,by omega⟩
 have e:s.ends[i]? = some s.ends[i]:=List.getElem?_eq_getElem hi
 have hn:=h5.ends _ (List.getElem_mem hi)
 rw [bhN_step e] at h4
 exact ⟨f',rfl,h3,e,hn,h4,h5.start hn⟩
theorem BK2.len (hg:SndG g) (h1:1 ≤ s0) (h2:s0 ≤ (g.all:Int)) (h:BK2 g s0 f i n k s):s.ends.length ≤ 32 ∧ s.all.length ≤ 700000:=by
 obtain ⟨-,-,-,h3,h4⟩:=h
 have h0:=(fold_pre (bhP_pre (null:=nulL g) (live:=livL g) (fir:=firL g) n) (g.prods.drop k) s).2
 have h5:=(bhN_pre (g:=g) (null:=nulL g) (live:=livL g) (fir:=firL g) f (i + 1) ((g.prods.drop k).foldl (bhP (nulL g) (livL g) (firL g) n) s)).2
 have h6:=bhF_len hg s0
 have h7:=h4.small hg h1 h2
 have h8:=all_le32 hg
 rw [h3] at h5
 omega
theorem BK2.stop (h:BK2 g s0 f i n k s) (hk:g.prods.length ≤ k):BK1 g s0 f (i + 1) s:=by
 obtain ⟨h1,-,-,h3,h4⟩:=h
 rw [List.drop_of_length_le hk] at h3
 exact ⟨by omega,h3,h4⟩
theorem BK2.dead (h:BK2 g s0 f i n k s) (hk:k < g.prods.length) (hl:(livL g).contains g.prods[k].left = false):BK2 g s0 f i n (k + 1) s:=by
 obtain ⟨h1,h2,h5,h3,h4⟩:=h
 rw [List.drop_eq_getElem_cons hk,List.foldl_cons] at h3
 have e:bhP (nulL g) (livL g) (firL g) n s g.prods[k] = s:=by
  unfold bhP
  rw [if_neg (by rw [hl];decide)]
 rw [e] at h3
 exact ⟨h1,h2,h5,h3,h4⟩
theorem BK2.live (h:BK2 g s0 f i n k s) (hk:k < g.prods.length) (hl:(livL g).contains g.prods[k].left = true):BK3 g s0 f i n k 0 s:=by
 obtain ⟨h1,h2,h5,h3,h4⟩:=h
 rw [List.drop_eq_getElem_cons hk,List.foldl_cons] at h3
 have e:bhP (nulL g) (livL g) (firL g) n s g.prods[k] = (List.range g.prods[k].right.length).foldl (bhJ (nulL g) (firL g) g.prods[k] n) s:=by
  unfold bhP
  rw [if_pos hl]
  rfl
 rw [e] at h3
 exact ⟨hk,h1,h2,h5,hl,by rw [List.drop_zero];exact h3,h4⟩
theorem BK3.len (hg:SndG g) (h1:1 ≤ s0) (h2:s0 ≤ (g.all:Int)) (h:BK3 g s0 f i n k j s):s.ends.length ≤ 32 ∧ s.all.length ≤ 700000:=by
 obtain ⟨hk,-,-,-,-,h3,h4⟩:=h
 have h9:=(fold_pre (bhJ_pre (null:=nulL g) (fir:=firL g) g.prods[k] n) ((List.range g.prods[k].right.length).drop j) s).2
 have h0:=(fold_pre (bhP_pre (null:=nulL g) (live:=livL g) (fir:=firL g) n) (g.prods.drop (k + 1)) (((List.range g.prods[k].right.length).drop j).foldl (bhJ (nulL g) (firL g) g.prods[k] n) s)).2
 have h5:=(bhN_pre (g:=g) (null:=nulL g) (live:=livL g) (fir:=firL g) f (i + 1) ((g.prods.drop (k + 1)).foldl (bhP (nulL g) (livL g) (firL g) n) (((List.range g.prods[k].right.length).drop j).foldl (bhJ (nulL g) (firL g) g.prods[k] n) s))).2
 have h6:=bhF_len hg s0
 have h7:=h4.small hg h1 h2
 have h8:=all_le32 hg
 rw [h3] at h5
 omega
theorem BK3.stop (h:BK3 g s0 f i n k j s) (hk:k < g.prods.length) (hj:g.prods[k].right.length ≤ j):BK2 g s0 f i n (k + 1) s:=by
 obtain ⟨_,h1,h2,h5,-,h3,h4⟩:=h
 rw [List.drop_of_length_le (by rw [List.length_range];exact hj)] at h3
 exact ⟨h1,h2,h5,h3,h4⟩
theorem BK3.step (h:BK3 g s0 f i n k j s) (hk:k < g.prods.length) (hj:j < g.prods[k].right.length):BK3 g s0 f i n k (j + 1) (bhJ (nulL g) (firL g) g.prods[k] n s j):=by
 obtain ⟨_,h1,h2,h5,h6,h3,h4⟩:=h
 rw [List.drop_eq_getElem_cons (by rw [List.length_range];exact hj),List.foldl_cons,List.getElem_range] at h3
 refine ⟨hk,h1,?_,h5,h6,h3,h4.place h5 (List.getElem_mem hk) (List.contains_iff_mem.1 h6) hj⟩
 obtain ⟨⟨r,e⟩,-⟩:=bhJ_le (null:=nulL g) (fir:=firL g) g.prods[k] n s j
 obtain ⟨hi,hn⟩:=List.getElem?_eq_some_iff.1 h2
 rw [e,List.getElem?_append_left hi]
 exact h2
theorem BK3.no (h:BK3 g s0 f i n k j s) (hk:k < g.prods.length) (hj:j < g.prods[k].right.length) (hn:g.prods[k].right[j] ≠ n):BK3 g s0 f i n k (j + 1) s:=by
 have h9:=h.step hk hj
 have e:bhJ (nulL g) (firL g) g.prods[k] n s j = s:=by
  unfold bhJ
  rw [List.getD_eq_getElem?_getD,List.getElem?_eq_getElem hj,Option.getD_some,if_neg hn]
 rw [e] at h9
 exact h9
theorem BK3.yes (h:BK3 g s0 f i n k j s) (hk:k < g.prods.length) (hj:j < g.prods[k].right.length) (hn:g.prods[k].right[j] = n):BK3 g s0 f i n k (j + 1) ⟨if (goneB (nulL g) (g.prods[k].right.drop (j + 1)) && !s.ends.contains g.prods[k].left) = true then s.ends ++ [g.prods[k].left] else s.ends,s.all ++ firL g (g.prods[k].right.drop (j + 1))⟩:=by
 have h9:=h.step hk hj
 have e:bhJ (nulL g) (firL g) g.prods[k] n s j = ⟨if (goneB (nulL g) (g.prods[k].right.drop (j + 1)) && !s.ends.contains g.prods[k].left) = true then s.ends ++ [g.prods[k].left] else s.ends,s.all ++ firL g (g.prods[k].right.drop (j + 1))⟩:=by
  unfold bhJ
  rw [List.getD_eq_getElem?_getD,List.getElem?_eq_getElem hj,Option.getD_some,if_pos hn]
 rw [e] at h9
 exact h9
theorem BK3.at (h:BK3 g s0 f i n k j s):s.ends[i]? = some n:=by obtain ⟨_,_,h2,_⟩:=h;exact h2
end
def behI (g:Gm) (s:Nat):List (List Int):=(behL g).take s ++ List.replicate (g.all + 1 - s) []
theorem behI_one (g:Gm):behI g 1 = List.replicate (g.all + 1) []:=by
 unfold behI
 have e:(behL g).take 1 = [[]]:=by unfold behL;rfl
 rw [e,Nat.add_sub_cancel,List.replicate_succ]
 rfl
theorem behI_len (g:Gm) {s:Nat} (hs:s ≤ g.all + 1):(behI g s).length = g.all + 1:=by
 unfold behI
 rw [List.length_append,List.length_take,behL_len,List.length_replicate]
 omega
theorem behI_all (g:Gm):behI g (g.all + 1) = behL g:=by
 unfold behI
 rw [List.take_of_length_le (by rw [behL_len];exact Nat.le_refl _),Nat.sub_self]
 exact List.append_nil _
theorem behI_set (g:Gm) {s:Nat} (h1:1 ≤ s) (h2:s < g.all + 1):(behI g s).set s (ofL (bhF g (s:Int)).all) = behI g (s + 1):=by
 have hlt:s < (behL g).length:=by rw [behL_len];exact h2
 have e:(behL g)[s] = ofL (bhF g (s:Int)).all:=by
  have h9:=behL_at (g:=g) (s:=(s:Int)) (by omega) (by omega)
  unfold atB at h9
  rw [Int.toNat_natCast,List.getD_eq_getElem?_getD,List.getElem?_eq_getElem hlt,Option.getD_some] at h9
  rw [h9]
  rfl
 unfold behI
 rw [List.take_succ_eq_append_getElem hlt,e]
 have hl:((behL g).take s).length = s:=by rw [List.length_take,behL_len];omega
 obtain ⟨r,hr⟩:∃ r,g.all + 1 - s = r + 1:=⟨g.all - s,by omega⟩
 have hr2:g.all + 1 - (s + 1) = r:=by omega
 rw [hr,hr2,List.set_append,if_neg (by omega),hl,Nat.sub_self,List.replicate_succ,List.set_cons_zero,List.append_assoc]
 rfl
theorem behL_none {g:Gm} (hg:SndG g) (h0:g.nonts.length = 0):behL g = List.replicate (g.all + 1) []:=by
 have hp:g.prods = []:=by
  cases e:g.prods with
  | nil => rfl
  | cons p r =>
   have:=left_sym hg (p:=p) (by rw [e];exact List.mem_cons_self)
   unfold Gm.all at this
   omega
 have hst:=hg.none h0
 apply List.ext_getElem?
 intro i
 rcases Nat.lt_or_ge i (g.all + 1) with h | h
 · rw [List.getElem?_replicate,if_pos h]
   rcases Nat.eq_zero_or_pos i with rfl | hi
   · rfl
   · have hlt:i < (behL g).length:=by rw [behL_len];exact h
     have h9:=behL_at (g:=g) (s:=(i:Int)) (by omega) (by omega)
     unfold atB at h9
     rw [Int.toNat_natCast,List.getD_eq_getElem?_getD,List.getElem?_eq_getElem hlt,Option.getD_some] at h9
     rw [List.getElem?_eq_getElem hlt,h9]
     congr 1
     apply List.eq_nil_iff_forall_not_mem.2
     intro x hx
     rw [bhL_mem hg (by omega) (by omega)] at hx
     rcases hx with ⟨-,hx⟩ | ⟨p,hpm,-⟩
     · rw [hst] at hx
       have:=hx.range hg (by omega) (by omega)
       omega
     · rw [hp] at hpm
       exact absurd hpm List.not_mem_nil
 · rw [List.getElem?_eq_none (by rw [behL_len];exact h),List.getElem?_eq_none (by rw [List.length_replicate];exact h)]
structure EaP (W u:World) (ve va:Value) (E A:List Int) (pb:Nat) (ob:Obj):Prop where
 ea:EaV W u ve va E A
 box:u.heap[pb]? = some ob
 ne1:ve.ownBlock ≠ some pb
 ne2:va.ownBlock ≠ some pb
section
variable {W u:World} {ve va:Value} {E A:List Int} {pb:Nat} {ob:Obj}
theorem EaP.start (h:EaV W u ve va E A) (ob:Obj):EaP W (u.alloc ob) ve va E A u.heap.size ob:=
 ⟨h.keep (al' u ob),heap_new u ob,fun e => absurd (h.ends.lt _ e).2 (Nat.lt_irrefl _),fun e => absurd (h.all.lt _ e).2 (Nat.lt_irrefl _)⟩
theorem EaP.swap (h:EaP W u ve va E A pb ob):EaP W u va ve A E pb ob:=⟨h.ea.swap,h.box,h.ne2,h.ne1⟩
theorem EaP.keep (h:EaP W u ve va E A pb ob) {u':World} (hb:Below u.heap.size u u'):EaP W u' ve va E A pb ob:=⟨h.ea.keep hb,hs_keep h.box hb,h.ne1,h.ne2⟩
set_option maxRecDepth 20000 in
theorem EaP.addL (h:EaP W u ve va E A pb ob) {vl:Value} {l:List Int} (hl:Nums u vl l) (hn:A.length + l.length ≤ 10000000) :
 ∃ v' u',(Builtin.append_ #[30,30] 30 #[va,vl]).run Tryz.prog u = .ok v' u' ∧ EaP W u' ve v' E (A ++ l) pb ob:=by
 obtain ⟨i0,hi,hz0,hz1,hz2⟩:=info_parts Tryz.info3
 rcases hl.parts with ⟨rfl,rfl⟩ | ⟨ad,cap,rfl,hnews⟩
 · exact ⟨va,u,run_append_owned_none u W.heap.size 30 30 3 i0 1 Tryz.underlying30 hi va _ _ h.ea.all,by rw [List.append_nil];exact h⟩
 · obtain ⟨v',u',hap,hown,hgr,-,hloc⟩:=run_append_own_at (P:=Tryz.prog) u W.heap.size 30 30 3 i0 (.int .i64 0) 1 8 Tryz.underlying30 hi hz0 hz1 hz2 rfl (by decide) _ _ _ h.ea.all ad l.length cap (numCells l) (by rw [numCells_len,Nat.mul_one]) hnews (numCells_one l) (by unfold maxLen;omega) (by omega) h.ea.low.size
   refine ⟨v',u',hap,⟨own_keep h.ea.ends (fun k hk => hgr.block k (h.ea.ends.lt k hk).2 (fun e => h.ea.dis k hk e.symm)),?_,h.ea.low.grown hgr h.ea.low.size (fun j hj => (h.ea.all.lt j hj).1),fun k hk e => ?_⟩,(hgr.block pb (blk_lt h.box) (fun e => h.ne2 e.symm)).trans h.box,h.ne1,fun e => ?_⟩
   · unfold Own
     rw [numCells_app,List.length_append]
     exact hown
   · rcases hloc with h9 | h9
     · rw [h9] at e
       exact h.ea.dis k hk e
     · rw [h9] at e
       injection e with e
       have:=(h.ea.ends.lt k hk).2
       omega
   · rcases hloc with h9 | h9
     · rw [h9] at e
       exact h.ne2 e
     · rw [h9] at e
       injection e with e
       have:=blk_lt h.box
       omega
set_option maxRecDepth 20000 in
theorem EaP.addE (h:EaP W u ve va E A pb ob) (x:Int) (hn:E.length ≤ 100000) :
 ∃ v' u',(Builtin.append_ #[30,30] 30 #[ve,.slice (some ⟨u.heap.size,0,none⟩) 1 1]).run Tryz.prog (u.alloc (.cells #[.int .i64 x] 3)) = .ok v' u' ∧ EaP W u' v' va (E ++ [x]) A pb ob:=by
 obtain ⟨v',u',h1,h2⟩:=(h.keep (al' u _)).swap.addL (Nums.of_row (Own.lit1 u x)) (by rw [List.length_singleton];omega)
 exact ⟨v',u',h1,h2.swap⟩
end
theorem cutN {b o rl c j1:Nat} (hj:j1 ≤ rl) (hc:rl ≤ c) (u:World) (t:List Int) (ht:t.length = rl) (h:Nums u (.slice (some ⟨b,o,none⟩) rl c) t):Nums u (.slice (if c = j1 then some ⟨b,o,none⟩ else some ⟨b,o + j1,none⟩) (rl - j1) (c - j1)) (t.drop j1):=by
 obtain ⟨a,c',e,h1,h2,h3⟩:=h
 injection e with e1 e2 e3
 subst e3
 have hlen:(t.drop j1).length = rl - j1:=by rw [List.length_drop,ht]
 by_cases hq:c = j1
 · rw [if_pos hq]
   exact ⟨_,_,by rw [hlen],by omega,fun h => (by cases h),fun k hk => absurd hk (by omega)⟩
 · rw [if_neg hq]
   refine ⟨_,_,by rw [hlen],by omega,fun h => (by cases h),fun k hk => ?_⟩
   obtain ⟨b2,o2,e5,hlt,hcell⟩:=h3 (j1 + k) (by omega)
   rw [← e1] at e5
   injection e5 with e5
   injection e5 with e6 e7 _
   subst e6 e7
   refine ⟨b,o + j1,rfl,hlt,?_⟩
   rw [List.getElem_drop,← hcell]
   congr 2
   omega
end Go.Proofs.YtfhokapfkclckaaGreat
