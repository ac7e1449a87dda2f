/- Package first: what Behind holds. Package first: spread. Marks: what a call of the function that marks leaves. Marks in memory; markEnds' inner function. -/
import Derived.Test.YtfhokapfkclckaaGreatK32
import Derived.Test.YtfhokapfkclckaaGreatK31
import Derived.Test.YtfhokapfkclckaaGreatK16
import Derived.RangeFuncWrites
namespace Go.Proofs.YtfhokapfkclckaaGreat
open Go.RowKit Go.Maps Go.Sort
theorem prods_kept {w u:World} {v:Value} {R:List Pd} (h:Lst 3 ProdAt w v R) {hb:Nat} {H:List (List Int)} (hR:RowsL w hb H) (hK:Kept (oneBlk hb) w u):Lst 3 ProdAt u v R:=by
 refine h.keepR hK.size (fun b o x hb9 hx => ?_)
 obtain ⟨y,h0,h1,h2,h3⟩:=hx
 have hne:b ≠ hb:=fun e => by
  subst e
  obtain ⟨vs,hv,hxs⟩:=hR
  unfold World.cell? at h0
  rw [hv] at h0
  simp only at h0
  have hc':vs.toArray[o]? = some (.int .i64 x.left):=by simpa using h0
  rw [List.getElem?_toArray] at hc'
  obtain ⟨a,n,c,e9⟩:=hxs.slices _ (List.mem_of_getElem? hc')
  cases e9
 have hblk:=hK.block b hb9 hne
 have hcell:∀ {o:Nat} {z:Value},w.cell? ⟨b,o,none⟩ = some z → u.cell? ⟨b,o,none⟩ = some z:=fun {o z} hz => by
  unfold World.cell? at hz ⊢
  rw [hblk]
  exact hz
 exact ⟨y,hcell h0,hcell h1,hcell h2,h3.kept hR hK⟩
theorem KbI.spi {g:Gm} (hg:SndG g) {H:List (List Int)} (h:KbI g H) (left:Int):SpI (g.all + 1) ⟨H,atB H left⟩:=by
 have hr:∀ l ∈ H,∀ x ∈ l,0 ≤ x ∧ x ≤ 100:=fun l hl x hx => by
  obtain ⟨k,hk,rfl⟩:=List.getElem_of_mem hl
  have e:atB H (k:Int) = H[k]:=by unfold atB;rw [Int.toNat_natCast,List.getD_eq_getElem?_getD,List.getElem?_eq_getElem hk,Option.getD_some]
  cases k with
  | zero =>
   have:=h.zero
   rw [show ((0:Nat):Int) = 0 from rfl] at e
   rw [← e,this] at hx
   exact absurd hx List.not_mem_nil
  | succ k =>
   have h1:=behd_in hg (h.snd ((k + 1:Nat):Int) (by omega) x (by rw [e];exact hx))
   have h2:=terms_le15 g
   have h3:=hg.rules
   omega
 exact ⟨h.len,h.up,hr,h.up.at left,rng_at hr left⟩
theorem Knw.beg {g:Gm} (hg:SndG g) {B:List (List Int)} (h:Knw g B):BegI B:=by
 refine ⟨h.inv.up,fun l hl x hx => ?_⟩
 obtain ⟨k,hk,rfl⟩:=List.getElem_of_mem hl
 have e:atB B (k:Int) = B[k]:=by unfold atB;rw [Int.toNat_natCast,List.getD_eq_getElem?_getD,List.getElem?_eq_getElem hk,Option.getD_some]
 have h1:=h.inv.snd (k:Int) (by omega) x (by rw [e];exact hx)
 have h2:=terms_le15 g
 have h3:=hg.rules
 omega
structure KbL (g:Gm) (B H0 H:List (List Int)) (i:Nat) (b:Bool):Prop where
 is:H = ((rpL g).take i).foldl (spP (nulL g) B) H0
 inv:KbI g H
 more:b = decide (totB H0 < totB H)
 le:totB H0 ≤ totB H
section
variable {g:Gm} {B H0 H:List (List Int)} {i:Nat} {b:Bool}
theorem KbL.start (h:KbI g H0):KbL g B H0 H0 0 false:=⟨rfl,h,by simp,Nat.le_refl _⟩
theorem KbL.next (hg:SndG g) (hB:Knw g B) (h:KbL g B H0 H i b) (hi:i < (rpL g).length) :
 KbL g B H0 (spr (nulL g) B (atB H (rpL g)[i].left) (rpL g)[i].right H) (i + 1) (decide (totB H < totB (spr (nulL g) B (atB H (rpL g)[i].left) (rpL g)[i].right H)) || b):=by
 have hm:=List.getElem_mem hi
 have h1:=spP_tot (B:=B) hg h.inv hm
 have e0:spP (nulL g) B H (rpL g)[i] = spr (nulL g) B (atB H (rpL g)[i].left) (rpL g)[i].right H:=rfl
 rw [e0] at h1
 refine ⟨by rw [take_fold hi,← h.is];rfl,h.inv.prod hg hB hm,?_,Nat.le_trans h.le h1⟩
 rw [h.more]
 have h3:=h.le
 rw [Bool.eq_iff_iff,Bool.or_eq_true,decide_eq_true_iff,decide_eq_true_iff,decide_eq_true_iff]
 omega
theorem KbL.stop (hg:SndG g) (hB:Knw g B) (h0:KbI g H0) (h:KbL g B H0 H i false) (hi:(rpL g).length ≤ i):H = behL g:=by
 have e1:=h.is
 rw [List.take_of_length_le hi] at e1
 have e1:H = spR (nulL g) B (rpL g) H0:=e1
 have h2:=h.more.symm
 rw [decide_eq_false_iff_not] at h2
 have h3:=h.le
 have h4:totB (spR (nulL g) B (rpL g) H0) = totB H0:=by rw [← e1];omega
 have h5:=(fold_stop (I:=KbI g) (f:=spP (nulL g) B) (rpL g) H0 (fun _ _ hp h => h.prod hg hB hp) (fun _ _ hp h => spP_tot hg h hp) (fun H p hp h e => (spr_still h.up (rp_lt hg h hp) e).1) h0 h4).1
 have h6:H = H0:=e1.trans h5
 rw [h6]
 exact kb_done hg hB h0 h4
end
theorem rpL_len (g:Gm):(rpL g).length ≤ g.prods.length:=List.length_filter_le _ _
end Go.Proofs.YtfhokapfkclckaaGreat
namespace Go.Proofs.YtfhokapfkclckaaGreat
open Go.RowKit Go.Shelf Go.Maps Go.Sort
attribute [local go_sem] Oper.semAt_some
theorem spW_out {w w5 W W':World} {hb mb nb Bs N:Nat} {H0:List (List Int)} {s:SpS} (hlo:hb < w.heap.size ∧ w.heap.size ≤ mb ∧ w.heap.size ≤ nb ∧ mb < w5.heap.size ∧ nb < w5.heap.size ∧ w.heap.size ≤ w5.heap.size ∧ mb ≠ Bs ∧ nb ≠ Bs) (hK:Kept (spF hb mb nb) W W') (hS:SpW w5 hb mb nb N H0 s W') :
 KeepsFrom w5.heap.size W W' ∧ Kept (fun k => k = hb ∨ (w.heap.size ≤ k ∧ k ≠ Bs)) W W' ∧ SpW w5 hb mb nb N H0 s W':=by
 refine ⟨⟨hK.size,fun k o hk ho _ => ?_⟩,hK.mono (fun k _ h => ?_),hS⟩
 · rw [hK.block k (blk_lt ho) (fun h => by rcases h with h | h | h <;> omega)]
   exact ho
 · rcases h with h | h | h
   · exact .inl h
   · exact .inr ⟨by omega,by omega⟩
   · exact .inr ⟨by omega,by omega⟩
set_option maxRecDepth 100000 in
set_option maxHeartbeats 16000000 in
theorem spreadC (vb bb hb N:Nat) (null:List Int) (B H:List (List Int)) (left prec:Int) (rv:Value) (t:List Int) (w:World) (hK:KnV w vb bb N null B) (hR:RowsL w hb H) (hn1:hb ≠ vb) (hn2:hb ≠ bb) (hs:SpI N ⟨H,atB H left⟩) (hBg:BegI B) (hl0:0 ≤ left) (hl1:left.toNat < N) (hN0:0 < N) (_:N ≤ 1000) (hT:Nums w rv t) (ht:∀ n ∈ t,0 ≤ n ∧ n.toNat < N) (htl:t.length ≤ 1000) :
 Calls Tryz.prog 37 #[knA vb bb N,.slice (some ⟨hb,0,none⟩) N N,.agg #[.int .i64 left,rv,.int .i64 prec]] w fun e w' => e = .returned (.bool (decide (totB H < totB (spr null B (atB H left) t H)))) ∧ RowsL w' hb (spr null B (atB H left) t H) ∧ Kept (oneBlk hb) w w':=by
 obtain ⟨ta,tc,rfl,-⟩:=id hT
 have hlen:H.length = N:=hs.len
 obtain ⟨nx,c0,hnx,-⟩:=hR.at (s:=left) (by rw [hlen];exact hl1)
 obtain ⟨xa,xc,rfl,-⟩:=id hnx
 have hbl:=hR.lt
 -- the boxes
 have z0:(w.alloc (.cells #[.slice (some ⟨vb,0,none⟩) N N,.slice (some ⟨bb,0,none⟩) N N] 60)).heap.size = w.heap.size + 1:=World.size_alloc ..
 have a0:=al' w (.cells #[.slice (some ⟨vb,0,none⟩) N N,.slice (some ⟨bb,0,none⟩) N N] 60)
 have b0:=heap_new w (.cells #[.slice (some ⟨vb,0,none⟩) N N,.slice (some ⟨bb,0,none⟩) N N] 60)
 obtain ⟨W0,hW0⟩:∃ x,w.alloc (.cells #[.slice (some ⟨vb,0,none⟩) N N,.slice (some ⟨bb,0,none⟩) N N] 60) = x:=⟨_,rfl⟩
 rw [hW0] at z0 a0 b0
 have z1:(W0.alloc (.cells #[.slice (some ⟨hb,0,none⟩) N N] 36)).heap.size = W0.heap.size + 1:=World.size_alloc ..
 have a1:=al' W0 (.cells #[.slice (some ⟨hb,0,none⟩) N N] 36)
 have b1:=heap_new W0 (.cells #[.slice (some ⟨hb,0,none⟩) N N] 36)
 obtain ⟨W1,hW1⟩:∃ x,W0.alloc (.cells #[.slice (some ⟨hb,0,none⟩) N N] 36) = x:=⟨_,rfl⟩
 rw [hW1] at z1 a1 b1
 have z2:(W1.alloc (.cells #[.int .i64 left,.slice ta t.length tc,.int .i64 prec] 43)).heap.size = W1.heap.size + 1:=World.size_alloc ..
 have a2:=al' W1 (.cells #[.int .i64 left,.slice ta t.length tc,.int .i64 prec] 43)
 have b2:=heap_new W1 (.cells #[.int .i64 left,.slice ta t.length tc,.int .i64 prec] 43)
 obtain ⟨W2,hW2⟩:∃ x,W1.alloc (.cells #[.int .i64 left,.slice ta t.length tc,.int .i64 prec] 43) = x:=⟨_,rfl⟩
 rw [hW2] at z2 a2 b2
 have z3:(W2.alloc (.cells #[.bool false] 4)).heap.size = W2.heap.size + 1:=World.size_alloc ..
 have a3:=al' W2 (.cells #[.bool false] 4)
 have b3:=heap_new W2 (.cells #[.bool false] 4)
 obtain ⟨W3,hW3⟩:∃ x,W2.alloc (.cells #[.bool false] 4) = x:=⟨_,rfl⟩
 rw [hW3] at z3 a3 b3
 have z4:(W3.alloc (.cells #[.slice xa (atB H left).length xc] 30)).heap.size = W3.heap.size + 1:=World.size_alloc ..
 have a4:=al' W3 (.cells #[.slice xa (atB H left).length xc] 30)
 have b4:=heap_new W3 (.cells #[.slice xa (atB H left).length xc] 30)
 obtain ⟨W4,hW4⟩:∃ x,W3.alloc (.cells #[.slice xa (atB H left).length xc] 30) = x:=⟨_,rfl⟩
 rw [hW4] at z4 a4 b4
 rw [z3] at b4
 have z5:(W4.alloc (.cells #[.slice ta t.length tc] 30)).heap.size = W4.heap.size + 1:=World.size_alloc ..
 have a5:=al' W4 (.cells #[.slice ta t.length tc] 30)
 have b5:=heap_new W4 (.cells #[.slice ta t.length tc] 30)
 obtain ⟨W5,hW5⟩:∃ x,W4.alloc (.cells #[.slice ta t.length tc] 30) = x:=⟨_,rfl⟩
 rw [hW5] at z5 a5 b5
 have A1:=bl_step a0 a1
 have A2:=bl_step A1 a2
 have A3:=bl_step A2 a3
 have A4:=bl_step A3 a4
 have A5:=bl_step A4 a5
 -- cells at W3
 have p1:=blk_cell (o:=0) (hs_keep (hs_keep b1 a2) a3) rfl
 have p2:=blk_cell (o:=0) (hs_keep b2 a3) rfl
 have p3:=keep_cell A3 c0
 have p4:=blk_cell (o:=1) (hs_keep (hs_keep b2 a3) a4) rfl
 have hlo:Hid (hb < w.heap.size ∧ w.heap.size ≤ W2.heap.size ∧ w.heap.size ≤ (W2.heap.size + 1) ∧ W2.heap.size < W5.heap.size ∧ (W2.heap.size + 1) < W5.heap.size ∧ w.heap.size ≤ W5.heap.size ∧ W2.heap.size ≠ W4.heap.size ∧ (W2.heap.size + 1) ≠ W4.heap.size):=hid ⟨hbl,by omega,by omega,by omega,by omega,by omega,by omega,by omega⟩
 have hKw:Hid (∀ W,Kept (spF hb W2.heap.size (W2.heap.size + 1)) W5 W → Kept (oneBlk hb) w W):=hid (fun W h => (Kept.of_below A5).step h (fun k hk e => by
  rcases e with e | e | e
  · exact e
  · omega
  · omega))
 have hfix:Hid (∀ W,Kept (spF hb W2.heap.size (W2.heap.size + 1)) W5 W → W.heap[w.heap.size]? = some (.cells #[.slice (some ⟨vb,0,none⟩) N N,.slice (some ⟨bb,0,none⟩) N N] 60) ∧ W.heap[W0.heap.size]? = some (.cells #[.slice (some ⟨hb,0,none⟩) N N] 36) ∧ KnV W vb bb N null B):=hid (fun W h => by
  refine ⟨h.blk (hs_keep b0 (bl_step (bl_step (bl_step (bl_step a1 a2) a3) a4) a5)) (fun e => by rcases e with e | e | e <;> omega),h.blk (hs_keep b1 (bl_step (bl_step (bl_step a2 a3) a4) a5)) (fun e => by rcases e with e | e | e <;> omega),hK.kept hR (hKw.out W h) hn1 hn2⟩)
 have hS0:Hid (SpW W5 hb W2.heap.size (W2.heap.size + 1) N H ⟨H,atB H left⟩ W5):=hid ⟨hs,Nat.le_refl _,by
  have e:decide (totB H < totB H) = false:=decide_eq_false (Nat.lt_irrefl _)
  show W5.heap[W2.heap.size]? = some (.cells #[.bool (decide (totB H < totB H))] 4)
  rw [e]
  exact hs_keep (hs_keep b3 a4) a5,⟨_,hs_keep b4 a5,hnx.keep A5⟩,hR.keep A5,Kept.refl _ _⟩
 have hBox:Hid (∀ u,Below W5.heap.size W5 u → ∀ u',Kept (fun k => k = hb ∨ (w.heap.size ≤ k ∧ k ≠ W4.heap.size)) u u' → u'.cell? ⟨W4.heap.size,0,none⟩ = some (.slice ta t.length tc)):=hid (fun u hu u' h => blk_cell (h.blk (hs_keep b5 hu) (fun e => by rcases e with e | e <;> omega)) rfl)
 have hTx:Hid (∀ u,Below W5.heap.size W5 u → ∀ u',Kept (fun k => k = hb ∨ (w.heap.size ≤ k ∧ k ≠ W4.heap.size)) u u' → Nums u' (.slice ta t.length tc) t):=hid (fun u hu u' h =>
  hT.kept hR ((Kept.of_below (bl_step A5 hu)).step h (fun k hk e => e.elim id (fun e => by omega))))
 have hKb9:Hid (∀ (W:World) (l:Nat) (o o':Obj),W5.heap.size ≤ l → W.heap[l]? = some o → Kept (fun k => k = hb ∨ (w.heap.size ≤ k ∧ k ≠ W4.heap.size)) W (W.putObj l o')):=hid (fun W l o o' hl ho => by
  have hg:=grownBy_putObj' W l o'
  exact ⟨hg.os,hg.tape,hg.output,hg.size,fun k hk hn => hg.block k hk (fun e => by injection e with e;subst e;exact hn (.inr ⟨by omega,by omega⟩))⟩)
 have hrev:=spS_rev null B H (atB H left) t
 have hKR:=hKw
 subst hW3
 clear z0 z1 z2 z3 z4 z5 a0 a1 a2 a3 a4 a5 b0 b1 b2 b3 b4 b5 A1 A2 A3 A4 A5 hK hR hs hT hnx c0
 have hmx:Tryz.prog.follows .mixedOrders = true:=by kernel_rfl
 obtain ⟨tl,htl9⟩:∃ n,Hid (t.length = n):=⟨_,hid rfl⟩
 obtain ⟨xl,hxl9⟩:∃ n,Hid ((atB H left).length = n):=⟨_,hid rfl⟩
 obtain ⟨lj,hlj⟩:∃ j:Nat,left.toNat = j:=⟨_,rfl⟩
 have hle:left = (lj:Int):=by omega
 rw [hlj] at p3 hl1
 subst hle
 clear hlj
 have GB:=hid (backward_in Fence.wide 3 trivial rfl ta t.length tc W4)
 refine (callsIn_wide (n:=4)).1 ?_
 refine callsIn_of_wp_marks Tryz.func37 rfl trivial ?_ rfl
 simp only [Tryz.ntmps37,List.size_toArray,List.length_cons,List.length_nil,Nat.reduceAdd,Nat.reduceSub,Array.replicate_succ,Array.replicate_zero,List.push_toArray,List.append_toArray,List.nil_append,List.cons_append]
 rw [hxl9.out] at p3 hW4
 gi_wp2_with (refine ⟨trivial,?_⟩;gi_at_call 59;refine GB.out.mono ?_;rintro e w' ⟨rfl,rfl⟩)
 refine wpIn_rangeFunc_ownG rfl (by omega) (gf:=79) (lb:=#[.pointer (some ⟨W4.heap.size,0,none⟩)]) rfl trivial (enters_of Tryz.func79 (by kernel_rfl) rfl)
  (bwd_stops Fence.wide 3 trivial rfl (by omega) N W4.heap.size (.slice ta t.length tc) t hN0 ht htl (Kept (fun k => k = hb ∨ (w.heap.size ≤ k ∧ k ≠ W4.heap.size))) (fun A => Kept.refl _ A) (fun h k => h.trans k) W5 hBox.out hTx.out)
  (fun h k => h.trans k) (fun W l o o' h1 h2 _ _ => hKb9.out W l o o' h1 h2) (Below.refl _ _) (fun _ => rfl)
  (fun pre W => SpW W5 hb W2.heap.size (W2.heap.size + 1) N H ((pre.map fun (x:SymA N) => x.1.2).foldl (spS null B) ⟨H,atB H (lj:Int)⟩) W)
  (fun _ _ _ => False)
  (fun s A C row hs hg hr => hs.turn hg hr)
  (fun _ _ _ _ _ hs _ _ => hs)
  hS0.out
  (fun (x:SymA N) => { tmps:=#[knA vb bb N,.slice (some ⟨hb,0,none⟩) N N,.agg #[.int .i64 (lj:Int),.slice ta t.length tc,.int .i64 prec],.pointer (some ⟨w.heap.size,0,none⟩),.pointer (some ⟨W0.heap.size,0,none⟩),.pointer (some ⟨W1.heap.size,0,none⟩),.bool false,.pointer (some ⟨W2.heap.size,0,none⟩),.pointer (some ⟨W2.heap.size + 1,0,none⟩),undef,.int .i64 x.1.2,.slice (some ⟨hb,0,none⟩) N N,.pointer (some ⟨W1.heap.size,0,none⟩),.int .i64 (lj:Int),.pointer (some ⟨hb,lj,none⟩),.slice xa xl xc,.pointer (some ⟨W1.heap.size,1,none⟩),.slice ta t.length tc,.func (.func 79) #[] #[.pointer (some ⟨W4.heap.size,0,none⟩)],.int .i64 x.1.1,.int .i64 x.1.2,undef,undef,undef,undef,undef,undef,undef,undef,undef,undef,undef,undef,undef,undef,undef,undef,undef,undef,undef,undef,undef,undef,undef,undef,undef,undef],defers:=[] }) ?assign ?body ?done ?stop
 case assign =>
  intro l x W K hK
  gi_wp2
  exact hK
 case body =>
  rintro l pre x W hS -
  obtain ⟨s,hs9⟩:∃ s,Hid ((pre.map fun (x:SymA N) => x.1.2).foldl (spS null B) ⟨H,atB H (lj:Int)⟩ = s):=⟨_,hid rfl⟩
  have hpost:∀ W',SpW W5 hb W2.heap.size (W2.heap.size + 1) N H (spS null B s x.1.2) W' → SpW W5 hb W2.heap.size (W2.heap.size + 1) N H (((pre ++ [x]).map fun (x:SymA N) => x.1.2).foldl (spS null B) ⟨H,atB H (lj:Int)⟩) W':=fun W' h => by
   rw [List.map_append,List.foldl_append,hs9.out]
   exact h
  rw [hs9.out] at hS
  obtain ⟨⟨i1,y⟩,hy0,hyN⟩:=x
  dsimp only at hy0 hyN hpost ⊢
  have hS0:=hid hS
  obtain ⟨nv,hn1',hn2'⟩:=hS.next
  obtain ⟨na,nc,rfl,-⟩:=id hn2'
  obtain ⟨k0,k1,hKn⟩:=hfix.out W hS.low
  have e0:=blk_cell (o:=0) k0 rfl
  have e1:=blk_cell (o:=1) k0 rfl
  have e2:=blk_cell (o:=0) k1 rfl
  have e3:=blk_cell (o:=0) hn1' rfl
  have e4:=blk_cell (o:=0) hS.more rfl
  have hinv:=hS.inv
  have GJ:=hid (joinC hb s.h y (.slice na s.nx.length nc) s.nx W hS.row hy0 (by rw [hinv.len];exact hyN) hn2' (Nat.le_trans hinv.nsmall (by decide)) (Nat.le_trans (hinv.small y) (by decide)))
  rw [hinv.len] at GJ
  have hd:1 ≤ 4 - 1 - 1:=by decide
  obtain ⟨j,hj⟩:∃ j:Nat,y.toNat = j:=⟨_,rfl⟩
  obtain rfl:y = (j:Int):=by omega
  rw [hj] at hyN
  -- the world behind join
  have hLo:=hlo.out
  have hAt:Hid (∀ u,Kept (spF hb W2.heap.size (W2.heap.size + 1)) W u → u.heap[w.heap.size]? = some (.cells #[.slice (some ⟨vb,0,none⟩) N N,.slice (some ⟨bb,0,none⟩) N N] 60) ∧ KnV u vb bb N null B):=hid (fun u hu => by
   obtain ⟨a,b,c⟩:=hfix.out u (hS0.out.low.trans hu)
   exact ⟨a,c⟩)
  have hW1:Hid (∀ u b,RowsL u hb (jnB s.h (j:Int) s.nx) → Kept (oneBlk hb) W u → ∃ um,u.setCell ⟨W2.heap.size,0,none⟩ (.bool b) = um ∧ (u.cell? ⟨W2.heap.size,0,none⟩ = some (.bool (decide (totB H < totB s.h))) ∧ u.frozen? ⟨W2.heap.size,0,none⟩ = false) ∧ RowsL um hb (jnB s.h (j:Int) s.nx) ∧ um.heap[W2.heap.size]? = some (.cells #[.bool b] 4) ∧ um.heap[W2.heap.size + 1]? = some (.cells #[.slice na s.nx.length nc] 30) ∧ Nums um (.slice na s.nx.length nc) s.nx ∧ Kept (spF hb W2.heap.size (W2.heap.size + 1)) W um):=hid (fun u b hu hk => by
   have m1:=hk.blk hS0.out.more (fun e => by have:W2.heap.size = hb:=e;omega)
   have n1:=hk.blk hn1' (fun e => by have:W2.heap.size + 1 = hb:=e;omega)
   have n2:=hn2'.kept hS0.out.row hk
   have kk:Kept (oneBlk W2.heap.size) u (u.setCell ⟨W2.heap.size,0,none⟩ (.bool b)):=set_kept
   exact ⟨_,rfl,⟨blk_cell m1 rfl,blk_frozen m1 0⟩,hu.off1 m1 (fun n e => by cases e) (by omega) _,heap_setCell m1,kk.blk n1 (fun e => by have:W2.heap.size + 1 = W2.heap.size:=e;omega),n2.off1 m1 (fun n e => by cases e) _,(hk.mono (fun k _ e => .inl e)).step kk (fun k _ e => .inr (.inl e))⟩)
  have hmo:=spS_more (H0:=H) (null:=null) (B:=B) (y:=(j:Int)) hinv (by rw [Int.toNat_natCast];exact hyN) hS.le
  have hle9:=hid (spS_le (H0:=H) (null:=null) (B:=B) (y:=(j:Int)) hinv (by rw [Int.toNat_natCast];exact hyN) hS.le)
  have hst9:=hid (hinv.step (null:=null) (y:=(j:Int)) hBg)
  have hout:Hid (∀ W' nv',Kept (spF hb W2.heap.size (W2.heap.size + 1)) W W' → W'.heap[W2.heap.size]? = some (.cells #[.bool (decide (totB H < totB (spS null B s (j:Int)).h))] 4) → W'.heap[W2.heap.size + 1]? = some (.cells #[nv'] 30) → Nums W' nv' (spS null B s (j:Int)).nx → RowsL W' hb (jnB s.h (j:Int) s.nx) → KeepsFrom W5.heap.size W W' ∧ Kept (fun k => k = hb ∨ (w.heap.size ≤ k ∧ k ≠ W4.heap.size)) W W' ∧ SpW W5 hb W2.heap.size (W2.heap.size + 1) N H (((pre ++ [(⟨(i1,(j:Int)),hy0,by rw [Int.toNat_natCast];exact hyN⟩:SymA N)]).map fun (x:SymA N) => x.1.2).foldl (spS null B) ⟨H,atB H (lj:Int)⟩) W'):=hid (fun W' nv' hk hm hnx hN' hr => by
   refine spW_out hlo.out hk (hpost W' ⟨hst9.out,hle9.out,hm,⟨nv',hnx,hN'⟩,hr,hS0.out.low.trans hk⟩))
  have hnsm:=hid hinv.nsmall
  have hvan:Hid (∀ u,Kept (spF hb W2.heap.size (W2.heap.size + 1)) W u → u.cell? ⟨vb,j,none⟩ = some (.bool (null.contains (j:Int)))):=hid (fun u hu => by
   have:=(hAt.out u hu).2.van.at hy0 (by rw [Int.toNat_natCast];exact hyN)
   rw [Int.toNat_natCast] at this
   exact this)
  have hbeg:Hid (∀ u,Kept (spF hb W2.heap.size (W2.heap.size + 1)) W u → ∃ y,u.cell? ⟨bb,j,none⟩ = some y ∧ Nums u y (atB B (j:Int))):=hid (fun u hu => by
   have h2:=(hAt.out u hu).2
   obtain ⟨y,a,b,-⟩:=h2.beg.at (s:=(j:Int)) (by rw [h2.len,Int.toNat_natCast];exact hyN)
   rw [Int.toNat_natCast] at a
   exact ⟨y,a,b⟩)
  have hnxT:null.contains (j:Int) = true → (spS null B s (j:Int)).nx = ofL (s.nx ++ atB B (j:Int)):=fun h => by
   show (if null.contains (j:Int) = true then ofL (s.nx ++ atB B (j:Int)) else atB B (j:Int)) = _
   rw [if_pos h]
  have hnxF:null.contains (j:Int) = false → (spS null B s (j:Int)).nx = atB B (j:Int):=fun h => by
   show (if null.contains (j:Int) = true then ofL (s.nx ++ atB B (j:Int)) else atB B (j:Int)) = _
   rw [h,if_neg (by decide)]
  have hfin:Hid (∀ um u3 v3,Kept (spF hb W2.heap.size (W2.heap.size + 1)) W um → RowsL um hb (jnB s.h (j:Int) s.nx) → um.heap[W2.heap.size]? = some (.cells #[.bool (decide (totB H < totB (spS null B s (j:Int)).h))] 4) → um.heap[W2.heap.size + 1]? = some (.cells #[.slice na s.nx.length nc] 30) → Below um.heap.size um u3 → Nums u3 v3 (spS null B s (j:Int)).nx → KeepsFrom W5.heap.size W (u3.setCell ⟨W2.heap.size + 1,0,none⟩ v3) ∧ Kept (fun k => k = hb ∨ (w.heap.size ≤ k ∧ k ≠ W4.heap.size)) W (u3.setCell ⟨W2.heap.size + 1,0,none⟩ v3) ∧ SpW W5 hb W2.heap.size (W2.heap.size + 1) N H (((pre ++ [(⟨(i1,(j:Int)),hy0,by rw [Int.toNat_natCast];exact hyN⟩:SymA N)]).map fun (x:SymA N) => x.1.2).foldl (spS null B) ⟨H,atB H (lj:Int)⟩) (u3.setCell ⟨W2.heap.size + 1,0,none⟩ v3)):=hid (fun um u3 v3 hk hr hm hn hb3 hN3 => by
   have n3:=hs_keep hn hb3
   have kk:Kept (oneBlk (W2.heap.size + 1)) u3 (u3.setCell ⟨W2.heap.size + 1,0,none⟩ v3):=set_kept
   refine hout.out _ v3 ((hk.trans (Kept.of_below hb3)).step kk (fun k _ e => .inr (.inr e))) (kk.blk (hs_keep hm hb3) (fun e => by have:W2.heap.size = W2.heap.size + 1:=e;omega)) (heap_setCell n3) (hN3.off1 n3 (fun n e => by cases e) _) ((hr.keep hb3).off1 n3 (fun n e => by cases e) (by omega) _))
  have hBs:=hid (hBg.small (j:Int))
  clear hS hpost hinv k0 k1 hKn hn1' hn2' hBox hTx hKb9 GB hj hout hLo
  generalize decide ((atB s.h (j:Int)).length < (ofL (atB s.h (j:Int) ++ s.nx)).length) = JB at *
  obtain ⟨OB,hOB⟩:∃ b,Hid (decide (totB H < totB s.h) = b):=⟨_,hid rfl⟩
  obtain ⟨NB,hNB⟩:∃ b,Hid (decide (totB H < totB (spS null B s (j:Int)).h) = b):=⟨_,hid rfl⟩
  rw [hOB.out] at hmo e4 hW1
  rw [hNB.out] at hmo hfin
  have hmo:(if JB = true then true else OB) = NB:=by rw [← hmo];cases JB <;> rfl
  cases JB with
  | true =>
   rw [if_pos rfl] at hmo
   subst hmo
   cases hv:null.contains (j:Int) with
   | true =>
    have hnx9:=hid (hnxT hv)
    clear hnxT hnxF
    gi_wp2_with (refine ⟨trivial,?_⟩;gi_at_call 52;refine (CallsIn.inRound l (callsIn_wide.2 GJ.out)).mono ?_;clear GJ;rintro e u1 ⟨rfl,hr1,hk1⟩
                 obtain ⟨um,hum,⟨g3,g3f⟩,hrm,m1,n1,n2,hkm⟩:=hW1.out u1 true hr1 hk1
                 obtain ⟨f0,-⟩:=hAt.out um hkm
                 have g0:=blk_cell (o:=0) f0 rfl
                 have g1:=blk_cell (o:=1) f0 rfl
                 have v0:=hvan.out um hkm
                 rw [hv] at v0
                 obtain ⟨yv,y0,y1⟩:=hbeg.out um hkm
                 obtain ⟨ya,yc,e9,-⟩:=id y1
                 subst e9
                 have n3:=blk_cell (o:=0) n1 rfl
                 have n3f:=blk_frozen n1 0
                 have hrm:=hid hrm;have m1:=hid m1;have n1:=hid n1;have n2:=hid n2;have hkm:=hid hkm;have y1:=hid y1)
    have GT:=hid (togetherTwo (.slice na s.nx.length nc) (.slice ya (atB B (j:Int)).length yc) s.nx (atB B (j:Int)) um.drew (n2.out.keep ((Below.refl _ um).drew)) (y1.out.keep ((Below.refl _ um).drew)) (Nat.le_trans hnsm.out (by decide)) (Nat.le_trans hBs.out (by decide)))
    gi_region_with_o (refine ⟨trivial,?_⟩;gi_at_call 53;refine (CallsIn.inRound l (callsIn_wide.2 GT.out)).mono ?_;rintro e u3 ⟨v3,rfl,hO3,hb3⟩;have hb3:=(Below.refl um.heap.size um).drew.trans hb3;have n4:=blk_cell (o:=0) (hs_keep n1.out hb3) rfl;have n4f:=blk_frozen (hs_keep n1.out hb3) 0;have hb3:=hid hb3;have hN3:=hid (Nums.of_row hO3);clear hO3;obtain ⟨v3a,v3c,e3⟩:=shapeN15 hN3.out;subst e3)
    all_goals gi_wp2
    all_goals exact hfin.out um u3 _ hkm.out hrm.out m1.out n1.out hb3.out (by rw [hnx9.out];exact hN3.out)
   | false =>
    have hnx9:=hid (hnxF hv)
    clear hnxT hnxF
    gi_wp2_with (refine ⟨trivial,?_⟩;gi_at_call 52;refine (CallsIn.inRound l (callsIn_wide.2 GJ.out)).mono ?_;clear GJ;rintro e u1 ⟨rfl,hr1,hk1⟩
                 obtain ⟨um,hum,⟨g3,g3f⟩,hrm,m1,n1,n2,hkm⟩:=hW1.out u1 true hr1 hk1
                 obtain ⟨f0,-⟩:=hAt.out um hkm
                 have g0:=blk_cell (o:=0) f0 rfl
                 have g1:=blk_cell (o:=1) f0 rfl
                 have v0:=hvan.out um hkm
                 rw [hv] at v0
                 obtain ⟨yv,y0,y1⟩:=hbeg.out um hkm
                 obtain ⟨ya,yc,e9,-⟩:=id y1
                 subst e9
                 have n3:=blk_cell (o:=0) n1 rfl
                 have n3f:=blk_frozen n1 0
                 have hrm:=hid hrm;have m1:=hid m1;have n1:=hid n1;have n2:=hid n2;have hkm:=hid hkm;have y1:=hid y1)
    exact hfin.out um um _ hkm.out hrm.out m1.out n1.out (Below.refl _ _) (by rw [hnx9.out];exact y1.out)
  | false =>
   rw [if_neg (by decide)] at hmo
   subst hmo
   cases hv:null.contains (j:Int) with
   | true =>
    have hnx9:=hid (hnxT hv)
    clear hnxT hnxF
    gi_wp2_with (refine ⟨trivial,?_⟩;gi_at_call 52;refine (CallsIn.inRound l (callsIn_wide.2 GJ.out)).mono ?_;clear GJ;rintro e u1 ⟨rfl,hr1,hk1⟩
                 obtain ⟨um,hum,⟨g3,g3f⟩,hrm,m1,n1,n2,hkm⟩:=hW1.out u1 OB hr1 hk1
                 obtain ⟨f0,-⟩:=hAt.out um hkm
                 have g0:=blk_cell (o:=0) f0 rfl
                 have g1:=blk_cell (o:=1) f0 rfl
                 have v0:=hvan.out um hkm
                 rw [hv] at v0
                 obtain ⟨yv,y0,y1⟩:=hbeg.out um hkm
                 obtain ⟨ya,yc,e9,-⟩:=id y1
                 subst e9
                 have n3:=blk_cell (o:=0) n1 rfl
                 have n3f:=blk_frozen n1 0
                 have hrm:=hid hrm;have m1:=hid m1;have n1:=hid n1;have n2:=hid n2;have hkm:=hid hkm;have y1:=hid y1)
    have GT:=hid (togetherTwo (.slice na s.nx.length nc) (.slice ya (atB B (j:Int)).length yc) s.nx (atB B (j:Int)) um.drew (n2.out.keep ((Below.refl _ um).drew)) (y1.out.keep ((Below.refl _ um).drew)) (Nat.le_trans hnsm.out (by decide)) (Nat.le_trans hBs.out (by decide)))
    gi_region_with_o (refine ⟨trivial,?_⟩;gi_at_call 53;refine (CallsIn.inRound l (callsIn_wide.2 GT.out)).mono ?_;rintro e u3 ⟨v3,rfl,hO3,hb3⟩;have hb3:=(Below.refl um.heap.size um).drew.trans hb3;have n4:=blk_cell (o:=0) (hs_keep n1.out hb3) rfl;have n4f:=blk_frozen (hs_keep n1.out hb3) 0;have hb3:=hid hb3;have hN3:=hid (Nums.of_row hO3);clear hO3;obtain ⟨v3a,v3c,e3⟩:=shapeN15 hN3.out;subst e3)
    all_goals gi_wp2
    all_goals exact hfin.out um u3 _ hkm.out hrm.out m1.out n1.out hb3.out (by rw [hnx9.out];exact hN3.out)
   | false =>
    have hnx9:=hid (hnxF hv)
    clear hnxT hnxF
    gi_wp2_with (refine ⟨trivial,?_⟩;gi_at_call 52;refine (CallsIn.inRound l (callsIn_wide.2 GJ.out)).mono ?_;clear GJ;rintro e u1 ⟨rfl,hr1,hk1⟩
                 obtain ⟨um,hum,⟨g3,g3f⟩,hrm,m1,n1,n2,hkm⟩:=hW1.out u1 OB hr1 hk1
                 obtain ⟨f0,-⟩:=hAt.out um hkm
                 have g0:=blk_cell (o:=0) f0 rfl
                 have g1:=blk_cell (o:=1) f0 rfl
                 have v0:=hvan.out um hkm
                 rw [hv] at v0
                 obtain ⟨yv,y0,y1⟩:=hbeg.out um hkm
                 obtain ⟨ya,yc,e9,-⟩:=id y1
                 subst e9
                 have n3:=blk_cell (o:=0) n1 rfl
                 have n3f:=blk_frozen n1 0
                 have hrm:=hid hrm;have m1:=hid m1;have n1:=hid n1;have n2:=hid n2;have hkm:=hid hkm;have y1:=hid y1)
    exact hfin.out um um _ hkm.out hrm.out m1.out n1.out (Below.refl _ _) (by rw [hnx9.out];exact y1.out)
 case done =>
  rintro D ys W hD rfl hS hK
  rw [uptoA_all,hrev] at hS
  have hm:=blk_cell (o:=0) hS.more rfl
  have hS9:=hid (hS.turn (grownBy_putObj' W D (.deferred none)) (fun r e => by cases e;exact ⟨hD,_,hK,rfl⟩))
  clear hS
  gi_wp2
  refine ⟨by simp,.inl ⟨_,_,rfl,run_takeDeferred hK,?_⟩⟩
  exact ⟨_,results_tmp rfl _ _ _,rfl,hS9.out.row,hKR.out _ hS9.out.low⟩
 case stop =>
  rintro D c pre W _ _ h _
  exact h.elim
end Go.Proofs.YtfhokapfkclckaaGreat
namespace Go.Proofs.YtfhokapfkclckaaGreat
def Mrk (tm:Nat) (L:List Bool) (n:Int):Prop:=(tm:Int) < n ∧ L[(n - (tm:Int) - 1).toNat]? = some true
theorem mrk_set {tm:Nat} {L:List Bool} {s:Int} (hs:(tm:Int) < s) (hl:(s - (tm:Int) - 1).toNat < L.length) (n:Int):Mrk tm (L.set (s - (tm:Int) - 1).toNat true) n ↔ n = s ∨ Mrk tm L n:=by
 unfold Mrk
 by_cases e:n = s
 · subst e
   exact ⟨fun _ => .inl rfl,fun _ => ⟨hs,by rw [List.getElem?_set_self hl]⟩⟩
 · by_cases hn:(tm:Int) < n
   · have:(s - (tm:Int) - 1).toNat ≠ (n - (tm:Int) - 1).toNat:=by omega
     rw [List.getElem?_set_ne this]
     simp [e]
   · simp [e,hn]
theorem mrk_none {tm N:Nat} (n:Int):¬ Mrk tm (List.replicate N false) n:=fun h => by
 have:=h.2
 rw [List.getElem?_replicate] at this
 split at this
 · injection this with this
   cases this
 · cases this
structure MkPost (g:Gm) (L L':List Bool) (s:Int):Prop where
 len:L'.length = L.length
 sub:∀ n,Mrk g.terms L n → Mrk g.terms L' n
 snd:(∀ n,Mrk g.terms L n → Rch g n) → ((g.terms:Int) < s → Rch g s) → ∀ n,Mrk g.terms L' n → Rch g n
 has:(g.terms:Int) < s → Mrk g.terms L' s
 cls:∀ n,Mrk g.terms L' n → ¬ Mrk g.terms L n → ∀ p ∈ g.prods,p.left = n → ∀ m ∈ p.right,(g.terms:Int) < m → Mrk g.terms L' m
theorem MkPost.idle {g:Gm} {L:List Bool} {s:Int} (h:(g.terms:Int) < s → Mrk g.terms L s):MkPost g L L s:=⟨rfl,fun _ h => h,fun h _ => h,h,fun _ h1 h2 => absurd h1 h2⟩
structure MkL (g:Gm) (L C:List Bool) (s:Int) (i k:Nat):Prop where
 len:C.length = L.length
 sub:∀ n,Mrk g.terms L n → Mrk g.terms C n
 me:Mrk g.terms C s
 snd:(∀ n,Mrk g.terms L n → Rch g n) → Rch g s → ∀ n,Mrk g.terms C n → Rch g n
 cls:∀ n,Mrk g.terms C n → ¬ Mrk g.terms L n → n ≠ s → ∀ p ∈ g.prods,p.left = n → ∀ m ∈ p.right,(g.terms:Int) < m → Mrk g.terms C m
 done:∀ j (hj:j < g.prods.length),j < i → g.prods[j].left = s → ∀ m ∈ g.prods[j].right,(g.terms:Int) < m → Mrk g.terms C m
 now:∀ (hi:i < g.prods.length),g.prods[i].left = s → ∀ q (hq:q < g.prods[i].right.length),q < k → (g.terms:Int) < g.prods[i].right[q] → Mrk g.terms C g.prods[i].right[q]
theorem MkL.start {g:Gm} {L:List Bool} {s:Int} (hs:(g.terms:Int) < s) (hl:(s - (g.terms:Int) - 1).toNat < L.length):MkL g L (L.set (s - (g.terms:Int) - 1).toNat true) s 0 0 where
 len:=List.length_set
 sub n h:=(mrk_set hs hl n).2 (.inr h)
 me:=(mrk_set hs hl s).2 (.inl rfl)
 snd h1 h2 n h:=by
  rcases (mrk_set hs hl n).1 h with rfl | h
  · exact h2
  · exact h1 n h
 cls n h h1 h2:=by
  rcases (mrk_set hs hl n).1 h with h3 | h3
  · exact absurd h3 h2
  · exact absurd h3 h1
 done _ _ h:=absurd h (Nat.not_lt_zero _)
 now _ _ _ _ h:=absurd h (Nat.not_lt_zero _)
theorem MkL.sym {g:Gm} {L C C':List Bool} {s:Int} {i k:Nat} (h:MkL g L C s i k) (hi:i < g.prods.length) (hk:k < g.prods[i].right.length) (hl:g.prods[i].left = s) (hP:MkPost g C C' g.prods[i].right[k]):MkL g L C' s i (k + 1) where
 len:=hP.len.trans h.len
 sub n hn:=hP.sub n (h.sub n hn)
 me:=hP.sub s h.me
 snd h1 h2:=hP.snd (h.snd h1 h2) (fun ht => Rch.step g.prods[i] _ (List.getElem_mem hi) (by rw [hl];exact h2) (List.getElem_mem hk) ht)
 cls n hn h1 h2 p hp hpl m hm ht:=by
  by_cases hc:Mrk g.terms C n
  · exact hP.sub m (h.cls n hc h1 h2 p hp hpl m hm ht)
  · exact hP.cls n hn hc p hp hpl m hm ht
 done j hj hji hjl m hm ht:=hP.sub m (h.done j hj hji hjl m hm ht)
 now hi' hl' q hq hqk ht:=by
  rcases Nat.lt_or_ge q k with h8 | h8
  · exact hP.sub _ (h.now hi' hl' q hq h8 ht)
  · obtain rfl:q = k:=by omega
    exact hP.has ht
theorem MkL.next {g:Gm} {L C:List Bool} {s:Int} {i k:Nat} (h:MkL g L C s i k) (hi:i < g.prods.length) (hk:g.prods[i].left = s → g.prods[i].right.length ≤ k):MkL g L C s (i + 1) 0 where
 len:=h.len
 sub:=h.sub
 me:=h.me
 snd:=h.snd
 cls:=h.cls
 done j hj hji hjl m hm ht:=by
  rcases Nat.lt_or_ge j i with h8 | h8
  · exact h.done j hj h8 hjl m hm ht
  · obtain rfl:j = i:=by omega
    obtain ⟨q,hq,rfl⟩:=List.getElem_of_mem hm
    exact h.now hi hjl q hq (by have:=hk hjl;omega) ht
 now _ _ _ _ h:=absurd h (Nat.not_lt_zero _)
theorem MkL.post {g:Gm} {L C:List Bool} {s:Int} {i k:Nat} (h:MkL g L C s i k) (hi:g.prods.length ≤ i) (hs:(g.terms:Int) < s):MkPost g L C s where
 len:=h.len
 sub:=h.sub
 snd h1 h2:=h.snd h1 (h2 hs)
 has _:=h.me
 cls n hn h1 p hp hpl m hm ht:=by
  by_cases e:n = s
  · subst e
    obtain ⟨j,hj,rfl⟩:=List.getElem_of_mem hp
    exact h.done j hj (by omega) hpl m hm ht
  · exact h.cls n hn h1 e p hp hpl m hm ht
theorem MkPost.all {g:Gm} {N:Nat} {L':List Bool} (h:MkPost g (List.replicate N false) L' g.start) (hs:(g.terms:Int) < g.start) (n:Int):Mrk g.terms L' n ↔ Rch g n:=by
 refine ⟨fun hn => h.snd (fun m hm => absurd hm (mrk_none m)) (fun _ => Rch.start (by omega)) n hn,fun hn => ?_⟩
 induction hn with
 | start _ => exact h.has hs
 | step p m hp _ hm ht ih => exact h.cls p.left ih (mrk_none _) p hp rfl m hm ht
def offN (L:List Bool):Nat:=L.count false
theorem mrk_count {tm:Nat} {L:List Bool} {s:Int} (h:L[(s - (tm:Int) - 1).toNat]? = some false):offN (L.set (s - (tm:Int) - 1).toNat true) + 1 = offN L:=by
 unfold offN
 generalize (s - (tm:Int) - 1).toNat = j at *
 induction L generalizing j with
 | nil => simp at h
 | cons b L ih =>
  cases j with
  | zero =>
   simp only [List.getElem?_cons_zero,Option.some.injEq] at h
   subst h
   simp
  | succ j =>
   simp only [List.getElem?_cons_succ] at h
   have:=ih j h
   simp only [List.set_cons_succ,List.count_cons]
   omega
theorem offN_le {tm:Nat} {L L':List Bool} (hl:L'.length = L.length) (h:∀ n,Mrk tm L n → Mrk tm L' n):offN L' ≤ offN L:=by
 have h':∀ j:Nat,L[j]? = some true → L'[j]? = some true:=fun j hj => by
  have:=h ((tm:Int) + 1 + (j:Int)) ⟨by omega,by rw [show ((tm:Int) + 1 + (j:Int) - (tm:Int) - 1).toNat = j by omega];exact hj⟩
  have:=this.2
  rw [show ((tm:Int) + 1 + (j:Int) - (tm:Int) - 1).toNat = j by omega] at this
  exact this
 clear h
 unfold offN
 induction L generalizing L' with
 | nil => cases L' with | nil => exact Nat.le_refl _ | cons _ _ => simp at hl
 | cons b L ih =>
  cases L' with
  | nil => simp at hl
  | cons c L' =>
   have h1:=ih (L':=L') (by simpa using hl) (fun j hj => by have:=h' (j + 1) (by simpa using hj);simpa using this)
   have h2:=h' 0
   simp only [List.getElem?_cons_zero,Option.some.injEq] at h2
   simp only [List.count_cons]
   cases b <;> cases c <;> simp_all <;> omega
end Go.Proofs.YtfhokapfkclckaaGreat
namespace Go.Proofs.YtfhokapfkclckaaGreat
open Go.RowKit Go.Maps Go.Sort
structure MkM (w:World) (fb sb mb tm:Nat) (L:List Bool):Prop where
 first:w.heap[fb]? = some (.cells #[.int .i64 ((tm:Int) + 1)] 3)
 sl:w.heap[sb]? = some (.cells #[.slice (some ⟨mb,0,none⟩) L.length L.length] 50)
 row:w.heap[mb]? = some (.cells (L.map Value.bool).toArray 4)
 fm:fb ≠ mb
 sm:sb ≠ mb
theorem MkM.keep {w u:World} {fb sb mb tm:Nat} {L:List Bool} (h:MkM w fb sb mb tm L) (hu:Below w.heap.size w u):MkM u fb sb mb tm L:=⟨hs_keep h.first hu,hs_keep h.sl hu,hs_keep h.row hu,h.fm,h.sm⟩
theorem MkM.c0 {w:World} {fb sb mb tm:Nat} {L:List Bool} (h:MkM w fb sb mb tm L):w.cell? ⟨fb,0,none⟩ = some (.int .i64 ((tm:Int) + 1)) ∧ w.cell? ⟨sb,0,none⟩ = some (.slice (some ⟨mb,0,none⟩) L.length L.length):=⟨blk_cell h.first rfl,blk_cell h.sl rfl⟩
theorem MkM.at {w:World} {fb sb mb tm:Nat} {L:List Bool} (h:MkM w fb sb mb tm L) {j:Nat} (hj:j < L.length):w.cell? ⟨mb,j,none⟩ = some (.bool L[j]):=blk_cell h.row (by simp [hj])
theorem MkM.free {w:World} {fb sb mb tm:Nat} {L:List Bool} (h:MkM w fb sb mb tm L) (j:Nat):w.frozen? ⟨mb,j,none⟩ = false:=blk_frozen h.row j
theorem MkM.set {w:World} {fb sb mb tm:Nat} {L:List Bool} (h:MkM w fb sb mb tm L) (j:Nat):MkM (w.setCell ⟨mb,j,none⟩ (.bool true)) fb sb mb tm (L.set j true):=by
 have hk:Kept (oneBlk mb) w (w.setCell ⟨mb,j,none⟩ (.bool true)):=set_kept
 refine ⟨hk.blk h.first h.fm,?_,?_,h.fm,h.sm⟩
 · rw [List.length_set]
   exact hk.blk h.sl h.sm
 · rw [heap_setCell h.row]
   simp [List.map_set]
end Go.Proofs.YtfhokapfkclckaaGreat
