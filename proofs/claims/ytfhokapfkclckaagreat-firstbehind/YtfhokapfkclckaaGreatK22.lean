/- Null of package regex: a cell. fold, of truths. Package first: ofText. What is asked of layer 4's reference, kept; right rules are told to be right. -/
import Derived.Test.YtfhokapfkclckaaGreatK21
import Derived.Test.YtfhokapfkclckaaGreatK2
import Derived.Test.YtfhokapfkclckaaGreatK17
import Derived.Deep.AppendLies
import Derived.Deep.RegionHeld3
namespace Go.Proofs.YtfhokapfkclckaaGreat
open Go.RowKit
set_option maxRecDepth 20000 in
theorem Tryz.infoB4:(Tryz.prog.info? 4).map (fun i => (i.zero,i.size,i.bytes)) = some (some (.bool false),1,1):=by kernel_rfl
end Go.Proofs.YtfhokapfkclckaaGreat
namespace Go.Proofs.YtfhokapfkclckaaGreat
open Go.RowKit Go.Maps Go.Sort
structure KnV (w:World) (vb bb N:Nat) (null:List Int) (B:List (List Int)):Prop where
 van:MkB w vb N null
 beg:RowsL w bb B
 len:B.length = N
theorem KnV.keep {w u:World} {vb bb N:Nat} {null:List Int} {B:List (List Int)} (h:KnV w vb bb N null B) (hu:Below w.heap.size w u):KnV u vb bb N null B:=⟨h.van.keep hu,h.beg.keep hu,h.len⟩
abbrev knA (vb bb N:Nat):Value:=.agg #[.slice (some ⟨vb,0,none⟩) N N,.slice (some ⟨bb,0,none⟩) N N]
structure LsV (W u:World) (mk:Nat) (vl:Value) (LS:List (List Int)):Prop where
 row:∃ xs:List Value,rowS u vl xs ∧ NumsL W xs LS
 low:Below W.heap.size W u
 own:∀ k,vl.ownBlock = some k → W.heap.size ≤ k ∧ k ≠ mk
section
variable {W u:World} {mk:Nat} {vl:Value} {LS:List (List Int)}
theorem LsV.start (h:Below W.heap.size W u):LsV W u mk (.slice none 0 0) []:=⟨⟨[],.inl ⟨rfl,rfl⟩,trivial⟩,h,fun k hk => (by cases hk)⟩
theorem LsV.form (h:LsV W u mk vl LS):∃ a c,vl = .slice a LS.length c:=by
 obtain ⟨xs,h1,h2⟩:=h.row
 obtain ⟨a,c,e⟩:=h1.form
 exact ⟨a,c,by rw [e,h2.len]⟩
theorem LsV.mark (h:LsV W u mk vl LS) (hm:W.heap.size ≤ mk) (j:Nat) (v:Value):LsV W (u.setCell ⟨mk,j,none⟩ v) mk vl LS:=by
 obtain ⟨xs,h1,h2⟩:=h.row
 have hK:Kept (oneBlk mk) u (u.setCell ⟨mk,j,none⟩ v):=set_kept
 refine ⟨⟨xs,h1.keep (fun k hk => hK.block k (h1.lt hk) (fun e => (h.own k hk).2 e)),h2⟩,h.low.trans (hK.below (fun k e => by rw [show k = mk from e];exact hm) h.low.size),h.own⟩
set_option maxRecDepth 20000 in
theorem LsV.add (h:LsV W u mk vl LS) (ty:TypeId) (v:Value) (l:List Int) (hv:Nums W v l) (hvl:l.length ≤ 1000000) (hn:LS.length ≤ 1000) (hm:mk < u.heap.size) :
 ∃ g o cap u',(Builtin.append_ #[36,36] ty #[vl,.slice (some ⟨u.heap.size,0,none⟩) 1 1]).run Tryz.prog (u.alloc (.cells #[v] 30)) = .ok (.slice (some ⟨g,o,none⟩) (LS.length + 1) cap) u' ∧ LsV W u' mk (.slice (some ⟨g,o,none⟩) (LS.length + 1) cap) (LS ++ [l]) ∧ u'.heap[mk]? = u.heap[mk]?:=by
 obtain ⟨xs,h1,h2⟩:=h.row
 have hal:=al' u (.cells #[v] 30)
 have h1a:=h1.keep (w':=u.alloc (.cells #[v] 30)) (fun k hk => hal.block k (h1.lt hk))
 obtain ⟨g,o,cap,u',hr,hrow,hgr,hat,hlt⟩:=run_append_rowS (u.alloc (.cells #[v] 30)) ty vl xs v h1a hv.one ⟨u.heap.size,0,none⟩ (blk_cell (heap_new u (.cells #[v] 30)) rfl) (by rw [h2.len];exact hn)
 rw [h2.len] at hr hrow
 have hza:(u.alloc (.cells #[v] 30)).heap.size = u.heap.size + 1:=World.size_alloc ..
 refine ⟨g,o,cap,u',hr,⟨⟨_,hrow,h2.add ⟨hv,hvl⟩⟩,(bl_step h.low hal).grown hgr (bl_step h.low hal).size (fun j hj => (h.own j hj).1),fun k hk => ?_⟩,?_⟩
 · have e:g = k:=by injection hk
   subst e
   rcases hat with h9 | h9
   · exact h.own g h9
   · have:=h.low.size
     omega
 · rw [hgr.block mk (by omega) (fun e => (h.own mk e.symm).2 rfl)]
   exact hal.block mk hm
end
structure OtI (null:List Int) (B:List (List Int)) (t:List Int) (k:Nat) (LS:List (List Int)):Prop where
 len:LS.length ≤ k
 mem:∀ x,x ∈ LS.flatten ↔ x ∈ (t.take k).flatMap (atB B)
 low:∀ l ∈ LS,l.length ≤ 1000
 van:∀ n ∈ t.take k,n ∈ null
theorem flt_split (null:List Int) (B:List (List Int)) (x:Int):∀ (t:List Int) (k:Nat),(∀ n ∈ t.take k,n ∈ null) → (x ∈ flt null B t ↔ x ∈ (t.take k).flatMap (atB B) ∨ x ∈ flt null B (t.drop k))
 | [],k,_ => by simp
 | s :: r,0,_ => by simp
 | s :: r,k + 1,h => by
  rw [List.take_succ_cons] at h ⊢
  rw [List.drop_succ_cons,flt_cons,List.flatMap_cons,List.mem_append,flt_split null B x r k (fun n hn => h n (List.mem_cons_of_mem _ hn)),or_assoc]
  have:=h s List.mem_cons_self
  simp [this]
section
variable {null:List Int} {B:List (List Int)} {t:List Int} {k:Nat} {LS:List (List Int)}
theorem OtI.start:OtI null B t 0 []:=⟨Nat.le_refl _,fun _ => Iff.rfl,fun _ h => absurd h List.not_mem_nil,fun _ h => absurd h (by simp)⟩
theorem flat_take (hk:k < t.length) (x:Int):x ∈ (t.take (k + 1)).flatMap (atB B) ↔ x ∈ (t.take k).flatMap (atB B) ∨ x ∈ atB B t[k]:=by
 rw [List.take_succ_eq_append_getElem hk,List.flatMap_append,List.mem_append]
 simp
structure OtM (null:List Int) (B:List (List Int)) (t:List Int) (k:Nat) (LS:List (List Int)):Prop where
 len:LS.length ≤ k + 1
 mem:∀ x,x ∈ LS.flatten ↔ x ∈ (t.take (k + 1)).flatMap (atB B)
 low:∀ l ∈ LS,l.length ≤ 1000
 van:∀ n ∈ t.take k,n ∈ null
theorem OtI.old (h:OtI null B t k LS) (hk:k < t.length) (hm:(t.take k).contains t[k] = true):OtM null B t k LS:=by
 refine ⟨Nat.le_succ_of_le h.len,fun x => ?_,h.low,h.van⟩
 rw [flat_take hk,h.mem]
 refine ⟨.inl,fun hx => hx.elim id (fun hx => ?_)⟩
 rw [List.mem_flatMap]
 exact ⟨_,List.contains_iff_mem.1 hm,hx⟩
theorem OtI.new (h:OtI null B t k LS) (hk:k < t.length) (hl:(atB B t[k]).length ≤ 1000):OtM null B t k (LS ++ [atB B t[k]]):=by
 refine ⟨by rw [List.length_append,List.length_singleton];have:=h.len;omega,fun x => ?_,fun l hl' => ?_,h.van⟩
 · rw [flat_take hk,← h.mem,List.flatten_append,List.mem_append]
   simp
 · rcases List.mem_append.1 hl' with hl' | hl'
   · exact h.low l hl'
   · rw [List.mem_singleton] at hl'
     subst hl'
     exact hl
theorem OtM.on (h:OtM null B t k LS) (hk:k < t.length) (hv:null.contains t[k] = true):OtI null B t (k + 1) LS:=
 ⟨h.len,h.mem,h.low,fun n hn => by
  rw [List.take_succ_eq_append_getElem hk,List.mem_append,List.mem_singleton] at hn
  rcases hn with hn | rfl
  · exact h.van n hn
  · exact List.contains_iff_mem.1 hv⟩
theorem OtM.stop (h:OtM null B t k LS) (hk:k < t.length) (hv:null.contains t[k] = false):ofL LS.flatten = txB null B t ∧ goneB null t = false:=by
 have hno:t[k] ∉ null:=fun e => by rw [List.contains_iff_mem.2 e] at hv;cases hv
 refine ⟨ofL_congr (fun x => ?_),?_⟩
 · rw [h.mem,flat_take hk,flt_split null B x t k h.van,List.drop_eq_getElem_cons hk,flt_cons]
   simp [hno]
 · rw [Bool.eq_false_iff]
   intro e
   exact hno (goneB_iff.1 e _ (List.getElem_mem hk))
theorem OtI.done (h:OtI null B t k LS) (hk:t.length ≤ k):ofL LS.flatten = txB null B t ∧ goneB null t = true:=by
 have hv:∀ n ∈ t,n ∈ null:=fun n hn => h.van n (by rw [List.take_of_length_le hk];exact hn)
 refine ⟨ofL_congr (fun x => ?_),goneB_iff.2 hv⟩
 rw [h.mem,flt_split null B x t k h.van,List.drop_of_length_le hk]
 simp [flt]
end
set_option maxRecDepth 20000 in
set_option maxHeartbeats 16000000 in
theorem ofTextC (vb bb N:Nat) (null:List Int) (B:List (List Int)) (tv:Value) (t:List Int) (w:World) (hK:KnV w vb bb N null B) (hT:Nums w tv t) (hts:∀ n ∈ t,0 ≤ n ∧ n.toNat < N) (hl:t.length ≤ 1000) (hN:N ≤ 1000) (hB:∀ s,(atB B s).length ≤ 1000) :
 Calls Tryz.prog 34 #[knA vb bb N,tv] w fun e w' => ∃ v,e = .returned (.tuple #[v,.bool (goneB null t)]) ∧ Own w' w.heap.size v (txB null B t) ∧ Below w.heap.size w w':=by
 have hB1:=al' w (.cells #[.slice (some ⟨vb,0,none⟩) N N,.slice (some ⟨bb,0,none⟩) N N] 60)
 have k1:=heap_new w (.cells #[.slice (some ⟨vb,0,none⟩) N N,.slice (some ⟨bb,0,none⟩) N N] 60)
 obtain ⟨W,hW⟩:∃ x,w.alloc (.cells #[.slice (some ⟨vb,0,none⟩) N N,.slice (some ⟨bb,0,none⟩) N N] 60) = x:=⟨_,rfl⟩
 rw [hW] at hB1 k1
 have hx0:=hid (fun u (hu:Below W.heap.size W u) => blk_cell (o:=0) (hs_keep k1 hu) rfl)
 have hx1:=hid (fun u (hu:Below W.heap.size W u) => blk_cell (o:=1) (hs_keep k1 hu) rfl)
 have hKW:=hid (hK.keep hB1)
 have hTW:=hT.keep hB1
 have hsB:=hid hB1
 obtain ⟨ta,tc,rfl,-⟩:=id hT
 have hNm:Hid (∀ k (hk:k < t.length),∃ b o,ta = some ⟨b,o,none⟩ ∧ b < W.heap.size ∧ W.cell? ⟨b,o + k,none⟩ = some (.int .i64 t[k])):=hid (fun k hk => by
  obtain ⟨b,o,cap,e,_,hb,hc⟩:=hTW.at (by omega)
  injection e with e1 _ _
  exact ⟨b,o,e1,hb,hc k hk⟩)
 have hrg:Hid (∀ k (hk:k < t.length),0 ≤ t[k] ∧ t[k].toNat < N):=hid (fun k hk => hts _ (List.getElem_mem hk))
 have hmk:=run_make_row' (P:=Tryz.prog) 50 4 (.bool false) 1 Tryz.underlying50 Tryz.infoB4 rfl .i64 .i64 N (by omega) (by omega)
 have hMM:=made_marks W N
 have hal2:=al' W (.cells (madeCells #[.bool false] N) 4)
 have hz2:(W.alloc (.cells (madeCells #[.bool false] N) 4)).heap.size = W.heap.size + 1:=World.size_alloc ..
 obtain ⟨W2,hW2⟩:∃ x,W.alloc (.cells (madeCells #[.bool false] N) 4) = x:=⟨_,rfl⟩
 rw [hW2] at hMM hal2 hz2
 have hL0:=hid (LsV.start (mk:=W.heap.size) hal2)
 have hM0:Hid (MkB W2 W.heap.size N (t.take 0)):=hid hMM
 have hO0:Hid (OtI null B t 0 []):=hid OtI.start
 have hG:Hid (∀ vl LS u,LsV W u W.heap.size vl LS → LS.length ≤ 1000 → (∀ l ∈ LS,l.length ≤ 1000) → Calls Tryz.prog 53 #[vl] u fun e w' => ∃ v',e = .returned v' ∧ Own w' u.heap.size v' (ofL LS.flatten) ∧ Below u.heap.size u w'):=hid (fun vl LS u h h1 h2 => by
  obtain ⟨xs,a1,a2⟩:=h.row
  exact togetherC vl xs LS u a1 (a2.mono fun _ _ h9 => h9.keep h.low) h1 h2)
 have hend:Hid (∀ u w',Below W.heap.size W u → Below u.heap.size u w' → Below w.heap.size w w'):=hid (fun u w' h1 h2 => bl_step hB1 (bl_step h1 h2))
 have hown:Hid (∀ u w' v l,Below W.heap.size W u → Own w' u.heap.size v l → Own w' w.heap.size v l):=hid (fun u w' v l h1 h2 => own_base h2 (Nat.le_trans hB1.size h1.size))
 obtain ⟨x0,x1⟩:=And.intro (hx0.out W (Below.refl _ _)) (hx1.out W (Below.refl _ _))
 have hmkk:Hid (∀ u vl LS,LsV W u W.heap.size vl LS → W.heap.size < u.heap.size → True):=hid (fun _ _ _ _ _ => trivial)
 clear hK hT hTW hB1 k1 hts hMM hal2 hmkk
 have hBs:Hid (∀ s:Int,(atB B s).length ≤ 1000):=hid hB
 clear hB
 obtain ⟨tl,htl⟩:∃ n,Hid (t.length = n):=⟨_,hid rfl⟩
 rw [htl.out] at hl ⊢
 obtain ⟨mk,hmk9⟩:∃ n,Hid (W.heap.size = n):=⟨_,hid rfl⟩
 go_enter Tryz.func34,Tryz.ntmps34
 go_wp2
 clear x0 x1 hmk
 go_loopw [6,16] (fun vl i wr => ∃ (k:Nat) (LS:List (List Int)),k ≤ tl ∧ i = .int .i64 (k:Int) ∧ Hid (LsV W wr W.heap.size vl LS) ∧ Hid (MkB wr W.heap.size N (t.take k)) ∧ Hid (OtI null B t k LS)) (fun _ i _ => tl - (intOf i).toNat)
 case atStart => exact ⟨0,[],Nat.zero_le _,rfl,hL0,hM0,hO0⟩
 case round =>
  clear hL0 hM0 hO0
  obtain ⟨k,LS,hk,rfl,hL,hM,hO⟩:=hrel
  obtain ⟨la,lc,rfl⟩:=hL.out.form
  by_cases hlt:k < tl
  · have hltz:(k:Int) < (tl:Int):=by omega
    have hkl:k < t.length:=by rw [htl.out];exact hlt
    obtain ⟨b,o,rfl,hb,c0⟩:=hNm.out k hkl
    have d0:=(hL.out.low.cell (p:=⟨b,o + k,none⟩) hb).trans c0
    obtain ⟨hr0,hr1⟩:=hrg.out k hkl
    have m0:=hM.out.at hr0 hr1
    have mf:=hM.out.free t[k].toNat
    have v0:=(hKW.out.keep hL.out.low).van.at hr0 hr1
    obtain ⟨y,r0,ry,-⟩:=hKW.out.beg.at (s:=t[k]) (by rw [hKW.out.len];exact hr1)
    have r1:=(hL.out.low.cell (p:=⟨bb,t[k].toNat,none⟩) hKW.out.beg.lt).trans r0
    have z0:=hx0.out wr hL.out.low
    have z1:=hx1.out wr hL.out.low
    have hs9:=hBs.out t[k]
    have hrw:=hid (fun u (hu:Below W.heap.size W u) => (hu.cell (p:=⟨bb,t[k].toNat,none⟩) hKW.out.beg.lt).trans r0)
    have hvw:=hid (fun u (hu:Below W.heap.size W u) => (hKW.out.keep hu).van.at hr0 hr1)
    have hLn:LS.length ≤ 1000:=by have:=hO.out.len;omega
    have hML:=hM.out.lt
    have hmset:=hid (hM.out.set hr0 hr1)
    have hmtk:Hid (t.take k ++ [t[k]] = t.take (k + 1)):=hid (List.take_succ_eq_append_getElem hkl).symm
    rw [hmtk.out] at hmset
    have hmsame:Hid ((t.take k).contains t[k] = true → MkB wr W.heap.size N (t.take (k + 1))):=hid (fun h => hM.out.congr (fun x => by
     rw [← hmtk.out,List.mem_append,List.mem_singleton]
     exact ⟨.inl,fun h9 => h9.elim id (fun e => e ▸ List.contains_iff_mem.1 h)⟩))
    have hold:=hid (fun h => hO.out.old hkl h)
    have hnew:=hid (hO.out.new hkl hs9)
    have hon:=hid (fun LS (h:OtM null B t k LS) h9 => h.on hkl h9)
    have hst:=hid (fun LS (h:OtM null B t k LS) h9 => h.stop hkl h9)
    have hLm:=hid (hL.out.mark (Nat.le_refl _) t[k].toNat (.bool true))
    have hyl:Hid ((atB B t[k]).length ≤ 1000000):=hid (by omega)
    have hry:=hid ry
    obtain ⟨ya,yc,rfl,-⟩:=id ry
    obtain ⟨j,hj⟩:∃ j:Nat,t[k].toNat = j:=⟨_,rfl⟩
    have hsj:t[k] = (j:Int):=by omega
    rw [hj] at m0 mf v0 r1 hmset hLm hr1 hrw hvw
    clear hNm hrg r0 ry c0 hM hO hmtk hs9 hj
    generalize atB B t[k] = AT at *
    obtain ⟨yl,hyl9⟩:∃ n,Hid (AT.length = n):=⟨_,hid rfl⟩
    rw [hyl9.out] at hry r1 hrw
    generalize t[k] = s at *
    subst hsj
    cases hm:(t.take k).contains (j:Int) with
    | true =>
     have hO1:=hid (hold.out hm)
     have hM1:=hid (hmsame.out hm)
     rw [hm] at m0
     clear hold hmsame hm hnew hmset hLm
     cases hv:null.contains (j:Int) with
     | true =>
      have hO2:=hid (hon.out _ hO1.out hv)
      rw [hv] at v0
      clear hon hst hv
      go_wp2
      go_roundw
      case rel => exact ⟨k + 1,LS,by omega,by go_num,hL,hM1,hO2⟩
      case measure => simp [intOf];omega
     | false =>
      obtain ⟨e1,e2⟩:=hst.out _ hO1.out hv
      have GG:=hid (hG.out _ LS wr hL.out hLn hO1.out.low)
      have hlw:=hid hL.out.low
      rw [e1] at GG
      have e2:=hid e2
      rw [hv] at v0
      clear hon hst hv e1 hL hM1 hO1
      go_wp2_with (go_at_call 53;refine GG.out.mono ?_;clear GG;rintro e w5 ⟨v5,rfl,hO5,hb5⟩;have hO5:=hid hO5;have hb5:=hid hb5)
      refine bodyPost_ret (v:=.tuple #[v5,.bool false]) (by simp [results,Tryz.results34,go_sem]) rfl ?_
      exact ⟨v5,by rw [e2.out],hown.out _ _ _ _ hlw.out hO5.out,hend.out _ _ hlw.out hb5.out⟩
    | false =>
     rw [hm] at m0
     clear hold hmsame hm hL
     obtain ⟨wm,hwm⟩:∃ x,wr.setCell ⟨W.heap.size,j,none⟩ (.bool true) = x:=⟨_,rfl⟩
     rw [hwm] at hLm hmset
     have q0:=hx0.out wm hLm.out.low
     have q1:=hx1.out wm hLm.out.low
     have hmz:W.heap.size < wm.heap.size:=hmset.out.lt
     have q2:=hrw.out wm hLm.out.low
     obtain ⟨g,o2,cap,u2,hrun,hL2,hmb2⟩:=hLm.out.add 36 (.slice ya yl yc) AT hry.out hyl.out hLn hmz
     have y0:=hx0.out u2 hL2.low
     have y1:=hx1.out u2 hL2.low
     have hM1:Hid (MkB u2 W.heap.size N (t.take (k + 1))):=hid (hmb2.trans hmset.out)
     have v2:=hvw.out u2 hL2.low
     have hL2:=hid hL2
     have hle9:Hid ((LS ++ [AT]).length = LS.length + 1):=hid (by rw [List.length_append,List.length_singleton])
     clear hLm hmset hmb2 hmz v0 r1
     cases hv:null.contains (j:Int) with
     | true =>
      have hO2:=hid (hon.out _ hnew.out hv)
      rw [hv] at v2
      clear hon hst hv hnew
      go_wp2_with (at_builtin;refine wp_run15 _ rfl _ _ _ rfl _ _ rfl rfl hrun ?_;clear hrun)
      go_roundw
      case rel => exact ⟨k + 1,LS ++ [AT],by omega,by go_num,hL2,hM1,hO2⟩
      case measure => simp [intOf];omega
     | false =>
      obtain ⟨e1,e2⟩:=hst.out _ hnew.out hv
      have hlw:=hid hL2.out.low
      have GG:=hid (hG.out _ (LS ++ [AT]) u2 hL2.out (by have:=hnew.out.len;omega) hnew.out.low)
      rw [e1] at GG
      have e2:=hid e2
      rw [hv] at v2
      clear hon hst hv e1 hL2 hM1 hnew
      go_wp2_with (first
       | (at_builtin;refine wp_run15 _ rfl _ _ _ rfl _ _ rfl rfl hrun ?_;clear hrun)
       | (go_at_call 53;refine GG.out.mono ?_;clear GG;rintro e w5 ⟨v5,rfl,hO5,hb5⟩;have hO5:=hid hO5;have hb5:=hid hb5))
      refine bodyPost_ret (v:=.tuple #[v5,.bool false]) (by simp [results,Tryz.results34,go_sem]) rfl ?_
      exact ⟨v5,by rw [e2.out],hown.out _ _ _ _ hlw.out hO5.out,hend.out _ _ hlw.out hb5.out⟩
  · have hltz:¬ (k:Int) < (tl:Int):=by omega
    obtain rfl:k = tl:=by omega
    obtain ⟨e1,e2⟩:=hO.out.done (by rw [htl.out];exact Nat.le_refl _)
    have GG:=hid (hG.out _ LS wr hL.out (by have:=hO.out.len;omega) hO.out.low)
    have hlw:=hid hL.out.low
    rw [e1] at GG
    have e2:=hid e2
    clear e1 hL hM hO
    go_wp2_with (go_at_call 53;refine GG.out.mono ?_;clear GG;rintro e w5 ⟨v5,rfl,hO5,hb5⟩;have hO5:=hid hO5;have hb5:=hid hb5)
    refine bodyPost_ret (v:=.tuple #[v5,.bool true]) (by simp [results,Tryz.results34,go_sem]) rfl ?_
    exact ⟨v5,by rw [e2.out],hown.out _ _ _ _ hlw.out hO5.out,hend.out _ _ hlw.out hb5.out⟩
end Go.Proofs.YtfhokapfkclckaaGreat
namespace Go.Proofs.YtfhokapfkclckaaGreat
open Go.RowKit
end Go.Proofs.YtfhokapfkclckaaGreat
