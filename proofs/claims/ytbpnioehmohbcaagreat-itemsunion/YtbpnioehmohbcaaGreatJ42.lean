/- slices.Clone of numbers and of items. Package items: slices.SortFunc and slices.Compact of items of the call's own. Package items: Right, Side, Next. Package items: what closure holds in memory: the list that grows, the map of the symbols that were met. -/
import Derived.Test.YtbpnioehmohbcaaGreatJ33
import Derived.Test.YtbpnioehmohbcaaGreatJ41
import Derived.Test.YtbpnioehmohbcaaGreatShelfQ
import Derived.Test.YtbpnioehmohbcaaGreatJ40
import Derived.Test.YtbpnioehmohbcaaGreatJ36
import Derived.Test.YtbpnioehmohbcaaGreatJ35
import Derived.Lib.SliceRun
import Derived.Maps.OwnSet
import Derived.Maps.AppendAt
namespace Go.Proofs.YtbpnioehmohbcaaGreat
open Go.RowKit Go.Maps Go.Sort
theorem OwnIt.lit0 (w:World):OwnIt (w.alloc (.cells #[] 29)) w.heap.size (.slice (some ⟨w.heap.size,0,none⟩) 0 0) []:=
 World.ownsRow_lit w #[] 0 (Nat.le_refl _) (by unfold maxLen;omega) rfl
set_option maxRecDepth 20000 in
set_option maxHeartbeats 4000000 in
theorem cloneN (v:Value) (l:List Int) (w:World) (hl:l.length ≤ 1000000) (hA:Nums w v l) :
 Calls Tryz.prog 27 #[v] w fun e w' => ∃ v',e = .returned v' ∧ Own w' w.heap.size v' l ∧ Below w.heap.size w w':=by
 have hq:∀ (w:World) (a:Option Addr) (n c n' c':Nat),(binOp .eql 32 (.slice a n c) (.slice none n' c')).run Tryz.prog w = .ok (.bool a.isNone) w:=fun w a n c n' c' => Lib.run_eql_slice_nil w _ _ a n c n' c' Tryz.underlying32
 rcases hA.parts with ⟨rfl,rfl⟩ | ⟨ad,cap,rfl,-⟩
 · clear hA
   go_enter Tryz.func27,Tryz.ntmps27
   go_wp2
   go_ret
   exact ⟨_,rfl,World.ownsRow_nil _ _ _ _,Below.refl _ _⟩
 · have hal:=al' w (.cells #[] 3)
   have hO:=hid (Own.lit0 w)
   have hN:=hid (hA.keep hal)
   have hB:=hid hal
   clear hA hal
   obtain ⟨n,hn⟩:∃ n,Hid (l.length = n):=⟨_,hid rfl⟩
   rw [hn.out] at hN hl ⊢
   go_enter Tryz.func27,Tryz.ntmps27
   go_wp2_with (at_builtin;refine wp_app _ rfl _ _ rfl w.heap.size [] l _ _ rfl rfl hO.out hN.out (by rw [hn.out];simp;omega) hB.out.size ?_;intro v4 w4 hO4 hb4;have hO9:=hid hO4;have hb9:=hid (hB.out.trans hb4);clear hO4 hb4)
   go_ret
   exact ⟨_,rfl,hO9.out,hb9.out⟩
set_option maxRecDepth 20000 in
set_option maxHeartbeats 4000000 in
theorem cloneI (v:Value) (l:List It) (w:World) (hl:l.length ≤ 1000000) (hA:Its w v l) :
 Calls Tryz.prog 55 #[v] w fun e w' => ∃ v',e = .returned v' ∧ OwnIt w' w.heap.size v' l ∧ Below w.heap.size w w':=by
 have hq:∀ (w:World) (a:Option Addr) (n c n' c':Nat),(binOp .eql 36 (.slice a n c) (.slice none n' c')).run Tryz.prog w = .ok (.bool a.isNone) w:=fun w a n c n' c' => Lib.run_eql_slice_nil w _ _ a n c n' c' Tryz.underlying36
 rcases hA.parts with ⟨rfl,rfl⟩ | ⟨ad,cap,rfl,-⟩
 · clear hA
   go_enter Tryz.func55,Tryz.ntmps55
   go_wp2
   go_ret
   exact ⟨_,rfl,OwnIt.nil0 _ _,Below.refl _ _⟩
 · have hal:=al' w (.cells #[] 29)
   have hO:=hid (OwnIt.lit0 w)
   have hN:=hid (hA.keep hal)
   have hB:=hid hal
   clear hA hal
   obtain ⟨n,hn⟩:∃ n,Hid (l.length = n):=⟨_,hid rfl⟩
   rw [hn.out] at hN hl ⊢
   go_enter Tryz.func55,Tryz.ntmps55
   go_wp2_with (at_builtin;refine wp_appI _ rfl _ _ rfl w.heap.size [] l _ _ rfl rfl hO.out hN.out (by rw [hn.out];simp;omega) hB.out.size ?_;intro v4 w4 hO4 hb4;have hO9:=hid hO4;have hb9:=hid (hB.out.trans hb4);clear hO4 hb4)
   go_ret
   exact ⟨_,rfl,hO9.out,hb9.out⟩
end Go.Proofs.YtbpnioehmohbcaaGreat
namespace Go.Proofs.YtbpnioehmohbcaaGreat
open Go.RowKit Go.Sort Go.Lib
set_option maxRecDepth 20000 in
theorem cmpLaysI (g m:Nat) (w:World):CmpLays Tryz.prog 57 #[] itC 2 cfI g 0 m w:=fun _ _ _ _ x y => orderE x y _
theorem own_sortedI {w:World} {B g cap m:Nat} {d d':Array It} {os:Array Obj} (h:OwnIt w B (.slice (some ⟨g,0,none⟩) d.size cap) d.toList) (hs:d'.size = d.size):OwnIt (sortWorldK itC 2 w g 0 m d' os) B (.slice (some ⟨g,0,none⟩) d.size cap) d'.toList:=by
 have key:=own_laid (m:=m) h hs (Nat.le_refl _)
 rw [List.take_of_length_le (by rw [Array.length_toList,hs];exact Nat.le_refl _)] at key
 unfold sortWorldK
 exact own_keep key fun k hk => heap_grow_old _ _ (key.lt k hk).2
theorem below_sortedI {w:World} {B g m:Nat} {d':Array It} {os:Array Obj} (hg:B ≤ g) (hB:B ≤ w.heap.size):Below B w (sortWorldK itC 2 w g 0 m d' os):=by
 have h1:Below B w (putRowK itC 2 (Sort.ahead w m) g 0 d'):=below_putRow (Below.refl B w) hg
 unfold sortWorldK
 exact ⟨h1.os,h1.tape,h1.output,Nat.le_trans h1.size (by rw [size_grow];omega),fun k hk => (heap_grow_old _ _ (Nat.lt_of_lt_of_le hk (Nat.le_trans hB h1.size))).trans (h1.block k hk)⟩
set_option maxRecDepth 20000 in
set_option maxHeartbeats 1000000 in
theorem sortIC (v:Value) (l:List It) (w:World) (B:Nat) (hB:B ≤ w.heap.size) (hl:l.length ≤ 1000000) (hA:OwnIt w B v l) :
 Calls Tryz.prog 56 #[v,.func (.func 57) #[] #[]] w fun e w' => e = .returned (.tuple #[]) ∧ ∃ l',l'.Perm l ∧ l'.Pairwise leI ∧ OwnIt w' B v l' ∧ Below B w w':=by
 rcases hA.2 with ⟨rfl,h0⟩ | ⟨g,cap,cur,rfl,hb,hg,hn,hm,hsz,ht⟩
 · have hl0:=List.length_eq_zero_iff.1 h0
   subst hl0
   have hcon:=AnyF.slices_SortFunc_none { Tryz.sortIt with } none 0 (.func (.func 57) #[] #[]) w
   change Calls Tryz.prog 56 _ _ _ at hcon
   refine hcon.mono ?_
   rintro e w' ⟨rfl,rfl⟩
   exact ⟨rfl,[],List.Perm.refl _,List.Pairwise.nil,hA,(Below.refl _ _).mono hB⟩
 · have hg:=(hA.lt g rfl).2
   clear ht hsz hm hn
   obtain ⟨d,rfl⟩:∃ d:Array It,d.toList = l:=⟨l.toArray,rfl⟩
   rw [Array.length_toList] at hA hl ⊢
   have eg:∀ args w,(callFunc 57 args).run Tryz.prog w = .ok (.enter 57 args) w:=enters_of Tryz.func57 (by kernel_rfl) rfl
   have hcon:=AnyQ.slices_SortFunc Tryz.sortIt 2 Tryz.isAgg29 Tryz.sizeOf29 itC (fun _ => rfl) itC_one cfI swoI 57 #[] g 0 cap d w eg (cmpLaysI g d.size w) (holdsRow hA) hg (by omega)
   change Calls Tryz.prog 56 _ _ _ at hcon
   refine hcon.mono ?_
   rintro e w' ⟨rfl,d',n,os,hp,hs,rfl⟩
   have hsz':d'.size = d.size:=hp.1
   refine ⟨rfl,d'.toList,?_,?_,own_sortedI hA hsz',below_sortedI hb hB⟩
   · have h3:=hp.2.2
     rw [Array.extract_size] at h3
     rw [← hsz',Array.extract_size] at h3
     exact h3
   · rw [List.pairwise_iff_getElem]
     intro i j hi hj hij
     simp only [Array.length_toList] at hi hj
     have h:=hs i j (Nat.zero_le _) hij (by omega)
     rw [getElem!_pos d' j hj,getElem!_pos d' i hi,ltOf_cfI] at h
     have h:=of_decide_eq_false h
     simp only [Array.getElem_toList]
     exact h
set_option maxHeartbeats 1000000 in
set_option maxRecDepth 20000 in
theorem compactIC (v:Value) (l:List It) (w:World) (B:Nat) (hB:B ≤ w.heap.size) (hl:l.length ≤ 1000000) (hA:OwnIt w B v l) :
 Calls Tryz.prog 58 #[v] w fun e w' => ∃ v',e = .returned v' ∧ OwnIt w' B v' (Lib.compact l) ∧ Below B w w':=by
 rcases hA.2 with ⟨rfl,h0⟩ | ⟨g,cap,cur,rfl,hb,hg,hn,hm,hsz,ht⟩
 · have hl0:=List.length_eq_zero_iff.1 h0
   subst hl0
   have hA:=hid hA
   go_enter Tryz.func58,Tryz.ntmps58
   go_wp2
   go_ret
   exact ⟨_,rfl,hA.out,(Below.refl _ _).mono hB⟩
 · clear ht hsz
   obtain ⟨d,rfl⟩:∃ d:Array It,d.toList = l:=⟨l.toArray,rfl⟩
   rw [Array.length_toList] at hA hl hn ⊢
   refine (compactRow g cap d w (holdsRow hA) hl hn).mono ?_
   rintro e w' ⟨rfl,q,rfl⟩
   have hcl:(compactUpTo d d.size).length ≤ d.size:=by
    have:=compI_len d.toList
    unfold Lib.compact at this
    rw [Array.length_toList,Array.toArray_toList] at this
    exact this
   have e1:Lib.compact d.toList = compactUpTo d d.size:=by
    unfold Lib.compact
    rw [Array.length_toList,Array.toArray_toList]
   refine ⟨_,rfl,?_,below_putRow (Below.refl B w) hb⟩
   have key:=own_laid (m:=q) (d':=(compactUpTo d d.size ++ List.replicate (d.size - (compactUpTo d d.size).length) (0,0)).toArray) hA (by simp;omega) hcl
   rw [e1]
   rw [List.take_left' rfl] at key
   exact key
set_option maxHeartbeats 1000000 in
set_option maxRecDepth 20000 in
theorem risingC (v:Value) (l:List It) (w:World) (hl:l.length ≤ 1000000) (hA:Its w v l) :
 Calls Tryz.prog 41 #[v] w fun e w' => ∃ v' m,e = .returned v' ∧ m.Pairwise ltI ∧ (∀ x,x ∈ m ↔ x ∈ l) ∧ m.length ≤ l.length ∧ OwnIt w' w.heap.size v' m ∧ Below w.heap.size w w':=by
 have G1:=hid (cloneI v l w hl hA)
 have G2:=hid (fun v' l' u (hB:w.heap.size ≤ u.heap.size) hl' h => sortIC v' l' u w.heap.size hB hl' h)
 have G3:=hid (fun v' l' u (hB:w.heap.size ≤ u.heap.size) hl' h => compactIC v' l' u w.heap.size hB hl' h)
 clear hA
 go_enter Tryz.func41,Tryz.ntmps41
 go_wp2_with (first
  | (go_at_call 55;refine G1.out.mono ?_;clear G1;rintro e w1 ⟨v1,rfl,hO1,hc1⟩;have hO1:=hid hO1;have hc1:=hid hc1)
  | (go_at_call 56;refine (G2.out _ l w1 hc1.out.size hl hO1.out).mono ?_;clear G2 hO1;rintro e w2 ⟨rfl,l2,hp2,hs2,hO2,hc2⟩;have hO2:=hid hO2;have hc2:=hid (hc1.out.trans hc2);have hp2:=hid hp2;have hs2:=hid hs2)
  | (go_at_call 58;refine (G3.out _ l2 w2 hc2.out.size (by rw [hp2.out.length_eq];exact hl) hO2.out).mono ?_;clear G3 hO2;rintro e w3 ⟨v3,rfl,hO3,hc3⟩;have hO3:=hid hO3;have hc3:=hid (hc2.out.trans hc3)))
 go_ret
 exact ⟨_,_,rfl,upI_compact _ hs2.out,fun x => by rw [memI_compact,hp2.out.mem_iff],Nat.le_trans (compI_len _) (Nat.le_of_eq hp2.out.length_eq),hO3.out,hc3.out⟩
end Go.Proofs.YtbpnioehmohbcaaGreat
namespace Go.Proofs.YtbpnioehmohbcaaGreat
open Go.RowKit Go.Maps Go.Sort
set_option maxRecDepth 20000 in
set_option maxHeartbeats 4000000 in
theorem noItemC (g:Gm) (rv nv lv pv:Value) (bx:Nat) (u:World) (hV:GmV u rv nv lv pv g) (hk:u.heap[bx]? = some (.cells #[rv,nv,lv,pv,.int .i64 g.start] 27 (0,0))) (hbx:bx < u.heap.size) :
 PredBelow Tryz.prog 31 #[.pointer (some ⟨bx,0,none⟩)] (fun x => .agg (itC x).toArray) (fun x => !itB g x) u:=fun W x hb => by
 obtain ⟨x1,x2⟩:=x
 show Calls Tryz.prog 31 #[.agg #[.int .i64 x1,.int .i64 x2],.pointer (some ⟨bx,0,none⟩)] W fun e w' => e = .returned (.bool (!itB g (x1,x2))) ∧ Below u.heap.size u w'
 have hal:=al' W (.cells #[.int .i64 x1,.int .i64 x2] 29)
 have hB1:=bl_step hb hal
 obtain ⟨z0,z1⟩:=cells2h (heap_new W (.cells #[.int .i64 x1,.int .i64 x2] 29))
 have hk1:=(hb.block bx hbx).trans hk
 have hbW:bx < W.heap.size:=Nat.lt_of_lt_of_le hbx hb.size
 obtain ⟨y0,y1,y2,y3,y4⟩:=cells5m ((hal.block bx hbW).trans hk1)
 have hne:bx ≠ W.heap.size:=by omega
 have GI:=hid (isItemC g rv nv lv pv (x1,x2) (W.alloc (.cells #[.int .i64 x1,.int .i64 x2] 29)) ((hV.keep hb).keep hal))
 have hB:=hid hB1
 clear hV hk hb hal hB1 hk1
 generalize itB g (x1,x2) = R at *
 generalize g.start = st at *
 obtain ⟨W2,hW⟩:∃ x,W.alloc (.cells #[.int .i64 x1,.int .i64 x2] 29) = x:=⟨_,rfl⟩
 rw [hW] at z0 z1 y0 y1 y2 y3 y4 GI hB
 go_enter Tryz.func31,Tryz.ntmps31
 go_wp2_with (go_at_call 28;refine GI.out.mono ?_;clear GI;rintro e w3 ⟨rfl,hc3⟩;have hc3:=hid hc3)
 go_ret
 exact ⟨rfl,bl_step hB.out hc3.out⟩
set_option maxRecDepth 20000 in
set_option maxHeartbeats 4000000 in
theorem anyItemC (g:Gm) (rv nv lv pv v:Value) (l:List It) (bx:Nat) (u:World) (hV:GmV u rv nv lv pv g) (hk:u.heap[bx]? = some (.cells #[rv,nv,lv,pv,.int .i64 g.start] 27 (0,0))) (hbx:bx < u.heap.size) (hl:l.length ≤ 1000000) (hI:Its u v l) :
 Calls Tryz.prog 30 #[v,.func (.func 31) #[] #[.pointer (some ⟨bx,0,none⟩)]] u fun e w' => e = .returned (.bool (l.any fun x => !itB g x)) ∧ Below u.heap.size u w':=by
 by_cases h0:0 < l.length
 · obtain ⟨b,o,cp,rfl,hlt,hat⟩:∃ b o cp,v = .slice (some ⟨b,o,none⟩) l.length cp ∧ b < u.heap.size ∧ ∀ j (hj:j < l.length),u.cell? ⟨b,o + j * 2,none⟩ = some (.int .i64 l[j].1) ∧ u.cell? ⟨b,o + j * 2 + 1,none⟩ = some (.int .i64 l[j].2):=by
    obtain ⟨a,cp,rfl,-,-,hat⟩:=hI
    obtain ⟨b,o,e,hlt,-⟩:=hat 0 h0
    subst e
    refine ⟨b,o,cp,rfl,hlt,fun j hj => ?_⟩
    obtain ⟨b',o',e,-,h1,h2⟩:=hat j hj
    injection e with e
    injection e with e1 e2
    subst e1 e2
    exact ⟨h1,h2⟩
   have eg:∀ args w,(callFunc 31 args).run Tryz.prog w = .ok (.enter 31 args) w:=enters_of Tryz.func31 (by kernel_rfl) rfl
   have hcon:=AnyQ.slices_ContainsFunc Tryz.anyIt 2 Tryz.isAgg29 Tryz.sizeOf29 itC (fun _ => rfl) (fun x => !itB g x) 31 #[.pointer (some ⟨bx,0,none⟩)] eg b o l.length cp l u (noItemC g rv nv lv pv bx u hV hk hbx) (Nat.le_refl _) (by omega) hlt (fun j hj i w hi => by
    obtain ⟨h1,h2⟩:=hat j hj
    rw [getElem!_pos l j hj] at hi
    match i,hi with
    | 0,hi => simp [itC] at hi;rw [← hi];exact h1
    | 1,hi => simp [itC] at hi;rw [← hi];exact h2
    | i + 2,hi => simp [itC] at hi)
   change Calls Tryz.prog 30 _ _ _ at hcon
   rw [List.take_length] at hcon
   exact hcon
 · obtain rfl:=List.length_eq_zero_iff.1 (Nat.le_zero.1 (Nat.not_lt.1 h0))
   obtain ⟨a,c,rfl⟩:=hI.shape
   have GX:∀ f u',Calls Tryz.prog 39 #[.slice a 0 c,f] u' fun e w' => e = .returned (.int .i64 (-1)) ∧ w' = u':=fun f u' => by
    go_enter Tryz.func39,Tryz.ntmps39
    go_wp2
    refine wp_loop_rounds 1 ?_
    rw [rounds_succ]
    go_wp2
    go_ret
    exact ⟨rfl,rfl⟩
   have GX:=hid GX
   clear hV hk hbx hI h0 hl
   show Calls Tryz.prog 30 #[.slice a 0 c,.func (.func 31) #[] #[.pointer (some ⟨bx,0,none⟩)]] u _
   go_enter Tryz.func30,Tryz.ntmps30
   go_wp2_with (go_at_call 39;refine (GX.out _ _).mono ?_;clear GX;rintro e w3 ⟨rfl,rfl⟩)
   go_ret
   exact ⟨rfl,Below.refl _ _⟩
theorem any_not (g:Gm) (l:List It):(!l.any fun x => !itB g x) = l.all (itB g):=by
 rw [Bool.eq_iff_iff,Bool.not_eq_true',List.any_eq_false,List.all_eq_true]
 exact ⟨fun h x hx => by simpa using h x hx,fun h x hx => by simpa using h x hx⟩
set_option maxRecDepth 20000 in
set_option maxHeartbeats 4000000 in
theorem rightIC (g:Gm) (rv nv lv pv v:Value) (l:List It) (w:World) (hf:Fits12 g) (hV:GmV w rv nv lv pv g) (hI:Its w v l) (hl:l.length ≤ 1000) :
 Calls Tryz.prog 12 #[gmA rv nv lv pv g.start,v] w fun e w' => e = .returned (.bool (rgtB g l)) ∧ Below w.heap.size w w':=by
 have GH:=hid (fun u (hu:Below w.heap.size w u) => hasC g rv nv lv pv u (hV.keep hu) hf.bnd hf.names)
 have GA:=hid (fun u bx (hu:Below w.heap.size w u) hk hbx => anyItemC g rv nv lv pv v l bx u (hV.keep hu) hk hbx (by omega) (hI.keep hu))
 have hB1:=al' w (.cells #[rv,nv,lv,pv,.int .i64 g.start] 27)
 have k1:=heap_new w (.cells #[rv,nv,lv,pv,.int .i64 g.start] 27)
 have hsz:w.heap.size < (w.alloc (.cells #[rv,nv,lv,pv,.int .i64 g.start] 27)).heap.size:=by rw [World.size_alloc];omega
 obtain ⟨W,hW⟩:∃ x,w.alloc (.cells #[rv,nv,lv,pv,.int .i64 g.start] 27) = x:=⟨_,rfl⟩
 rw [hW] at hB1 k1 hsz
 obtain ⟨y0,y1,y2,y3,y4⟩:=cells5m k1
 have hB:=hid hB1
 have hK:=hid (fun u (hu:Below W.heap.size W u) => hs_keep k1 hu)
 have hS:=hid (fun u (hu:Below W.heap.size W u) => Nat.lt_of_lt_of_le hsz hu.size)
 unfold rgtB
 rw [← any_not]
 clear hV hI hl hB1 k1 hsz hf
 generalize (l.any fun x => !itB g x) = R at *
 generalize g.start = st at *
 cases hU:usB g with
 | true =>
  rw [hU] at GH
  clear hU
  rw [Bool.true_and]
  go_enter Tryz.func12,Tryz.ntmps12
  go_wp2_with (first
   | (go_at_call 25;refine (GH.out _ hB.out).mono ?_;clear GH;rintro e w3 ⟨rfl,hc3⟩;have hc3:=hid hc3)
   | (go_at_call 30;refine (GA.out _ _ (bl_step hB.out hc3.out) (hK.out _ hc3.out) (hS.out _ hc3.out)).mono ?_;clear GA;rintro e w4 ⟨rfl,hc4⟩;have hc4:=hid hc4))
  go_ret
  exact ⟨rfl,bl_step hB.out (bl_step hc3.out hc4.out)⟩
 | false =>
  rw [hU] at GH
  clear hU
  rw [Bool.false_and]
  go_enter Tryz.func12,Tryz.ntmps12
  go_wp2_with (go_at_call 25;refine (GH.out _ hB.out).mono ?_;clear GH;rintro e w3 ⟨rfl,hc3⟩;have hc3:=hid hc3)
  go_ret
  exact ⟨rfl,bl_step hB.out hc3.out⟩
theorem usB_iff {g:Gm}:usB g = true ↔ UsG g:=by
 refine ⟨fun h => ?_,usB_yes⟩
 apply Classical.byContradiction
 intro hn
 rw [usB_no hn] at h
 cases h
set_option maxRecDepth 20000 in
set_option maxHeartbeats 4000000 in
theorem sideIC (g:Gm) (rv nv lv pv:Value) (p:Int) (w:World) (hf:Fits12 g) (hV:GmV w rv nv lv pv g) :
 Calls Tryz.prog 10 #[gmA rv nv lv pv g.start,.int .i64 p] w fun e w' => ∃ v,e = .returned v ∧ Nums w' v (if usB g = true ∧ (-1 ≤ p ∧ p < (g.prods.length:Int)) then sidG g p else []) ∧ Below w.heap.size w w':=by
 have GH:=hid (fun u (hu:Below w.heap.size w u) => hasC g rv nv lv pv u (hV.keep hu) hf.bnd hf.names)
 have GY:=hid (fun u (hu:Below w.heap.size w u) h1 h2 => sideYesC g rv nv lv pv p u (hV.keep hu) h1 h2)
 have GN:=hid (fun u (hu:Below w.heap.size w u) h => sideNoC g rv nv lv pv p u (hV.keep hu) h)
 have GC:=hid (fun u v l hl (h:Nums u v l) => cloneN v l u hl h)
 have hbd:=hid (fun h => sidG_bnd hf.bnd (p:=p) h)
 have hB1:=al' w (.cells #[rv,nv,lv,pv,.int .i64 g.start] 27)
 have k1:=heap_new w (.cells #[rv,nv,lv,pv,.int .i64 g.start] 27)
 obtain ⟨W,hW⟩:∃ x,w.alloc (.cells #[rv,nv,lv,pv,.int .i64 g.start] 27) = x:=⟨_,rfl⟩
 rw [hW] at hB1 k1
 obtain ⟨y0,y1,y2,y3,y4⟩:=cells5m k1
 have hB:=hid hB1
 have hk1:=hid (fun u (hu:Below W.heap.size W u) => cells5m (hs_keep k1 hu))
 have h0n:=hid (Nums.nil w)
 cases hU:usB g with
 | true =>
  rw [hU] at GH
  by_cases hp:-1 ≤ p ∧ p < (g.prods.length:Int)
  · rw [if_pos ⟨rfl,hp⟩]
    have GY:=hid (fun u hu => GY.out u hu hp.1 hp.2)
    have hbd:=hid (hbd.out hp.2)
    clear hV hf hB1 k1 hU GN hp
    generalize sidG g p = S at *
    generalize g.start = st at *
    go_enter Tryz.func10,Tryz.ntmps10
    go_wp2_with (first
     | (go_at_call 25;refine (GH.out _ hB.out).mono ?_;clear GH;rintro e w3 ⟨rfl,hc3⟩;have hc3:=hid hc3;clear y0 y1 y2 y3 y4;obtain ⟨y0,y1,y2,y3,y4⟩:=hk1.out _ hc3.out)
     | (go_at_call 26;refine (GY.out _ (bl_step hB.out hc3.out)).mono ?_;clear GY;rintro e w4 ⟨v4,rfl,hN4,hc4⟩;have hN4:=hid hN4;have hc4:=hid (bl_step hc3.out hc4))
     | (go_at_call 27;refine (GC.out _ _ S hbd.out hN4.out).mono ?_;clear GC;rintro e w5 ⟨v5,rfl,hO5,hc5⟩;have hN5:=hid (Nums.of_row hO5);clear hO5;have hc5:=hid (bl_step hc4.out hc5)))
    go_ret
    exact ⟨_,rfl,hN5.out,bl_step hB.out hc5.out⟩
  · rw [if_neg (fun h => hp h.2)]
    have GN:=hid (fun u hu => GN.out u hu hp)
    clear hV hf hB1 k1 hU GY hp hbd
    generalize g.start = st at *
    go_enter Tryz.func10,Tryz.ntmps10
    go_wp2_with (first
     | (go_at_call 25;refine (GH.out _ hB.out).mono ?_;clear GH;rintro e w3 ⟨rfl,hc3⟩;have hc3:=hid hc3;clear y0 y1 y2 y3 y4;obtain ⟨y0,y1,y2,y3,y4⟩:=hk1.out _ hc3.out)
     | (go_at_call 26;refine (GN.out _ (bl_step hB.out hc3.out)).mono ?_;clear GN;rintro e w4 ⟨rfl,hc4⟩;have hc4:=hid (bl_step hc3.out hc4))
     | (go_at_call 27;refine (GC.out _ _ [] (by simp) (Nums.nil _)).mono ?_;clear GC;rintro e w5 ⟨v5,rfl,hO5,hc5⟩;have hN5:=hid (Nums.of_row hO5);clear hO5;have hc5:=hid (bl_step hc4.out hc5)))
    go_ret
    exact ⟨_,rfl,hN5.out,bl_step hB.out hc5.out⟩
 | false =>
  rw [hU] at GH
  rw [if_neg (fun h => by cases h.1)]
  clear hV hf hB1 k1 hU GY GN hbd
  generalize g.start = st at *
  go_enter Tryz.func10,Tryz.ntmps10
  go_wp2_with (go_at_call 25;refine (GH.out _ hB.out).mono ?_;clear GH;rintro e w3 ⟨rfl,hc3⟩;have hc3:=hid hc3)
  go_ret
  exact ⟨_,rfl,Nums.nil _,bl_step hB.out hc3.out⟩
set_option maxRecDepth 20000 in
set_option maxHeartbeats 4000000 in
theorem nextIC (g:Gm) (rv nv lv pv:Value) (x:It) (w:World) (hf:Fits12 g) (hV:GmV w rv nv lv pv g) :
 Calls Tryz.prog 11 #[gmA rv nv lv pv g.start,itV x] w fun e w' => e = .returned (.int .i64 (if usB g = true ∧ itB g x = true then nxtG g x else 0)) ∧ Below w.heap.size w w':=by
 have GH:=hid (fun u (hu:Below w.heap.size w u) => hasC g rv nv lv pv u (hV.keep hu) hf.bnd hf.names)
 have GI:=hid (fun u (hu:Below w.heap.size w u) => isItemC g rv nv lv pv x u (hV.keep hu))
 have GB:=hid (fun u (hu:Below w.heap.size w u) h => behindC g rv nv lv pv x u (hV.keep hu) h)
 have hB1:=al' w (.cells #[rv,nv,lv,pv,.int .i64 g.start] 27)
 have k1:=heap_new w (.cells #[rv,nv,lv,pv,.int .i64 g.start] 27)
 have hB2:=bl_step hB1 (al' (w.alloc (.cells #[rv,nv,lv,pv,.int .i64 g.start] 27)) (.cells #[.int .i64 x.1,.int .i64 x.2] 29))
 have k2:=hs_keep k1 (al' (w.alloc (.cells #[rv,nv,lv,pv,.int .i64 g.start] 27)) (.cells #[.int .i64 x.1,.int .i64 x.2] 29))
 have k3:=heap_new (w.alloc (.cells #[rv,nv,lv,pv,.int .i64 g.start] 27)) (.cells #[.int .i64 x.1,.int .i64 x.2] 29)
 have hsz:(w.alloc (.cells #[rv,nv,lv,pv,.int .i64 g.start] 27)).heap.size = w.heap.size + 1:=World.size_alloc _ _
 rw [hsz] at k3
 obtain ⟨W,hW⟩:∃ y,(w.alloc (.cells #[rv,nv,lv,pv,.int .i64 g.start] 27)).alloc (.cells #[.int .i64 x.1,.int .i64 x.2] 29) = y:=⟨_,rfl⟩
 rw [hW] at hB2 k2 k3
 have hk1:=hid (fun u (hu:Below W.heap.size W u) => cells5m (hs_keep k2 hu))
 have hk3:=hid (fun u (hu:Below W.heap.size W u) => cells2h (hs_keep k3 hu))
 obtain ⟨y0,y1,y2,y3,y4⟩:=cells5m k2
 obtain ⟨z0,z1⟩:=cells2h k3
 have hB:=hid hB2
 clear hV hf hB1 hB2 k1 k2 k3 hsz
 generalize nxtG g x = NX at *
 cases hU:usB g with
 | true =>
  rw [hU] at GH
  cases hI:itB g x with
  | true =>
   rw [if_pos ⟨rfl,rfl⟩]
   rw [hI] at GI
   have GB:=hid (fun u hu => GB.out u hu hI)
   clear hU hI
   obtain ⟨x1,x2⟩:=x
   generalize g.start = st at *
   go_enter Tryz.func11,Tryz.ntmps11
   go_wp2_with (first
    | (go_at_call 25;refine (GH.out _ hB.out).mono ?_;clear GH;rintro e w3 ⟨rfl,hc3⟩;have hc3:=hid hc3;clear y0 y1 y2 y3 y4 z0 z1;obtain ⟨y0,y1,y2,y3,y4⟩:=hk1.out _ hc3.out;obtain ⟨z0,z1⟩:=hk3.out _ hc3.out)
    | (go_at_call 28;refine (GI.out _ (bl_step hB.out hc3.out)).mono ?_;clear GI;rintro e w4 ⟨rfl,hc4⟩;have hc4:=hid (bl_step hc3.out hc4);clear y0 y1 y2 y3 y4 z0 z1;obtain ⟨y0,y1,y2,y3,y4⟩:=hk1.out _ hc4.out;obtain ⟨z0,z1⟩:=hk3.out _ hc4.out)
    | (go_at_call 29;refine (GB.out _ (bl_step hB.out hc4.out)).mono ?_;clear GB;rintro e w5 ⟨rfl,hc5⟩;have hc5:=hid (bl_step hc4.out hc5)))
   go_ret
   exact ⟨rfl,bl_step hB.out hc5.out⟩
  | false =>
   rw [if_neg (fun h => by cases h.2)]
   rw [hI] at GI
   clear hU hI GB
   obtain ⟨x1,x2⟩:=x
   generalize g.start = st at *
   go_enter Tryz.func11,Tryz.ntmps11
   go_wp2_with (first
    | (go_at_call 25;refine (GH.out _ hB.out).mono ?_;clear GH;rintro e w3 ⟨rfl,hc3⟩;have hc3:=hid hc3;clear y0 y1 y2 y3 y4 z0 z1;obtain ⟨y0,y1,y2,y3,y4⟩:=hk1.out _ hc3.out;obtain ⟨z0,z1⟩:=hk3.out _ hc3.out)
    | (go_at_call 28;refine (GI.out _ (bl_step hB.out hc3.out)).mono ?_;clear GI;rintro e w4 ⟨rfl,hc4⟩;have hc4:=hid (bl_step hc3.out hc4)))
   go_ret
   exact ⟨rfl,bl_step hB.out hc4.out⟩
 | false =>
  rw [hU] at GH
  rw [if_neg (fun h => by cases h.1)]
  clear hU GB GI
  obtain ⟨x1,x2⟩:=x
  generalize g.start = st at *
  go_enter Tryz.func11,Tryz.ntmps11
  go_wp2_with (go_at_call 25;refine (GH.out _ hB.out).mono ?_;clear GH;rintro e w3 ⟨rfl,hc3⟩;have hc3:=hid hc3)
  go_ret
  exact ⟨rfl,bl_step hB.out hc3.out⟩
end Go.Proofs.YtbpnioehmohbcaaGreat
namespace Go.Proofs.YtbpnioehmohbcaaGreat
open Go.RowKit Go.Maps Go.Sort
theorem nxtG_bnd {g:Gm} (hg:UsG g) (x:It):0 ≤ nxtG g x ∧ nxtG g x ≤ 1000:=by
 have hall:(g.all:Int) ≤ 32:=by
  have h1:g.terms ≤ g.rules.length:=trmK_le g.rules _
  have:=hg.snd.rules
  have:=hg.snd.nonts
  unfold Gm.all
  omega
 refine ⟨nxtG_nonneg hg x,?_⟩
 unfold nxtG
 rw [List.getD_eq_getElem?_getD]
 cases e:(sidG g x.1)[x.2.toNat]? with
 | none => rw [Option.getD_none];omega
 | some s =>
  rw [Option.getD_some]
  have hs:=List.mem_of_getElem? e
  unfold sidG at hs
  by_cases h:x.1 < 0
  · rw [if_pos h,List.mem_singleton] at hs
    have:=(hg.snd.start hg.some).2
    omega
  · rw [if_neg h,List.getD_eq_getElem?_getD] at hs
    cases e2:g.prods[x.1.toNat]? with
    | none => rw [e2,Option.getD_none] at hs;cases hs
    | some p =>
     rw [e2,Option.getD_some] at hs
     have:=hg.snd.prod p (List.mem_of_getElem? e2)
     unfold pdB at this
     simp only [Bool.and_eq_true,decide_eq_true_eq,List.all_eq_true] at this
     have:=(this.2 s hs).2
     omega
def putU (D:DataW Unit) (s:Int):DataW Unit:=D.put (.int .i64 s) (.agg [])
def dU (M:List Int):DataW Unit:=M.foldl putU (.map [])
theorem dU_snoc (M:List Int) (s:Int):dU (M ++ [s]) = (dU M).put (.int .i64 s) (.agg []):=by unfold dU;rw [List.foldl_append];rfl
theorem fold_has:∀ (M:List Int) (D:DataW Unit) (s:Int),IsMap D → has (M.foldl putU D) (.int .i64 s) = (has D (.int .i64 s) || M.contains s)
 | [],D,s,_ => by simp
 | x :: M,D,s,hD => by
  rw [List.foldl_cons,fold_has M (putU D x) s (hD.put _ _),List.contains_cons]
  unfold putU
  by_cases e:s = x
  · subst e
    rw [has_put_same hD (show WideAt.IsKeyLit (Lit.int .i64 s) from trivial),beq_self_eq_true]
    simp
  · rw [has_put_other (fun h => e (by injection h)),beq_eq_false_iff_ne.2 e,Bool.false_or]
set_option maxRecDepth 20000 in
theorem dU_has (M:List Int) (s:Int):has (dU M) (.int .i64 s) = M.contains s:=by
 unfold dU
 rw [fold_has M _ s isMap_empty]
 rfl
abbrev MetM (u:World) (mb n:Nat) (M:List Int):Prop:=u.ownsMap Tryz.prog 3 (unitElem (H:=Unit)) mb n (dU M)
set_option maxRecDepth 20000 in
theorem keyI:Keyed Tryz.prog 3:=int_keyed Tryz.underlying3
set_option maxRecDepth 20000 in
theorem keyI_of {x:Int} (h:-9223372036854775808 ≤ x ∧ x ≤ 9223372036854775807):keyOf Tryz.prog 3 (.int .i64 x) = some (.int .i64 x):=keyOf_int_mk Tryz.underlying3 (WalkArith.wf_i64 h)
structure CloM (W u:World) (B mb:Nat) (va:Value) (A:List It) (M:List Int):Prop where
 row:OwnIt u B va A
 map:MetM u mb M.length M
 low:Below B W u
 dis:∀ k,va.ownBlock = some k → k ≠ mb
 hmb:B ≤ mb
 hB:B ≤ W.heap.size
section
variable {W u:World} {B mb:Nat} {va:Value} {A:List It} {M:List Int}
theorem CloM.sz (h:CloM W u B mb va A M):B ≤ u.heap.size:=Nat.le_trans h.hB h.low.size
theorem CloM.keep (h:CloM W u B mb va A M) {u':World} (hb:Below u.heap.size u u'):CloM W u' B mb va A M where
 row:=own_below h.row hb
 map:=by
  have hlt:=h.map.lt
  obtain ⟨es,clock,e1,e2⟩:=h.map
  exact ⟨es,clock,(hb.block mb hlt).trans e1,e2⟩
 low:=h.low.trans (hb.mono h.sz)
 dis:=h.dis
 hmb:=h.hmb
 hB:=h.hB
set_option maxRecDepth 20000 in
theorem CloM.look (h:CloM W u B mb va A M) {s:Int} (hs:0 ≤ s ∧ s ≤ 1000):(Instr.lookup 84 (.map (some mb)) (.int .i64 s) true).run Tryz.prog u = .ok (.tuple #[.agg #[],.bool (M.contains s)]) u:=by
 obtain ⟨c,ps,hrun,hR⟩:=h.map.look_ok keyI Tryz.underlying84 (Tryz.zeroValue64 u) (unitElem_mk (H:=Unit)) (keyI_of (x:=s) (by omega))
 obtain ⟨rfl,-⟩:=unitElem_inv hR
 rw [hrun,dU_has]
set_option maxRecDepth 20000 in
theorem CloM.put (h:CloM W u B mb va A M) {s:Int} (hs:0 ≤ s ∧ s ≤ 1000) (hM:M.length ≤ 1000000):∃ u',(Instr.mapUpdate 84 (.map (some mb)) (.int .i64 s) (.agg #[])).run Tryz.prog u = .ok () u' ∧ CloM W u' B mb va A (M ++ [s]):=by
 obtain ⟨u',hrun,r1,r2⟩:=World.ownsMap.update h.map keyI Tryz.underlying84 (by unfold maxLen;omega) (keyI_of (x:=s) (by omega)) (unitElem_mk (H:=Unit))
 refine ⟨u',hrun,?_,?_,h.low.grown r2 h.sz (fun k hk => by injection hk with hk;have:=h.hmb;omega),h.dis,h.hmb,h.hB⟩
 · exact own_keep h.row fun k hk => r2.block k (h.row.lt k hk).2 (fun e => h.dis k hk (by injection e))
 · unfold MetM
   rw [dU_snoc,List.length_append]
   exact r1
set_option maxRecDepth 20000 in
theorem CloM.add1 (h:CloM W u B mb va A M) (a b:Int) (hn:A.length ≤ 1000000) :
 ∃ v' u',(Builtin.append_ #[36,36] 36 #[va,.slice (some ⟨u.heap.size,0,none⟩) 1 1]).run Tryz.prog (u.alloc (.cells #[.int .i64 a,.int .i64 b] 29)) = .ok v' u' ∧ CloM W u' B mb v' (A ++ [(a,b)]) M:=by
 obtain ⟨i0,hi,hz0,hz1,hz2⟩:=info_parts infoIt
 have hk:=h.keep (al' u (.cells #[.int .i64 a,.int .i64 b] 29))
 have hN:=Its.lit1 u a b
 rcases hN.parts with ⟨e,-⟩ | ⟨ad,cap,e,hnews⟩
 · cases e
 · injection e with e1 e2 e3
   injection e1 with e1
   subst e1 e3
   obtain ⟨v',u',hap,hown,hgr,-,hloc⟩:=run_append_own_at (P:=Tryz.prog) (u.alloc (.cells #[.int .i64 a,.int .i64 b] 29)) B 36 36 29 i0 (.agg #[.int .i64 0,.int .i64 0]) 2 16 Tryz.underlying36 hi hz0 hz1 hz2 rfl (by decide) _ _ _ hk.row ⟨u.heap.size,0,none⟩ 1 1 (itCells [(a,b)]) rfl hnews (itCells_one _) (by unfold maxLen;omega) (by omega) hk.sz
   have hlt:=hk.map.lt
   refine ⟨v',u',hap,?_,?_,hk.low.grown hgr hk.sz (fun j hj => (hk.row.lt j hj).1),fun k e => ?_,h.hmb,h.hB⟩
   · unfold OwnIt
     rw [itCells_app,List.length_append]
     exact hown
   · exact hk.map.kept hgr (fun e => hk.dis mb e.symm rfl)
   · rcases hloc with h9 | h9
     · rw [h9] at e
       exact hk.dis k e
     · rw [h9] at e
       injection e with e
       omega
end
end Go.Proofs.YtbpnioehmohbcaaGreat
