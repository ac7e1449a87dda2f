/- slices.IndexFunc, ContainsFunc of markEnds' inner function. markReached's inner function, which calls itself. Marks: what ends; the list of what has a mark. Package check: markReached. -/
import Derived.Test.YtfhokapfkclckaaGreatK33
import Derived.Test.YtfhokapfkclckaaGreatK22
import Derived.Laws.EntriesVeiled
namespace Go.Proofs.YtfhokapfkclckaaGreat
open Go.RowKit Go.Maps Go.Sort
abbrev mrkV (fb sb gb kb:Nat):Value:=.func (.func 95) #[] #[ptr0 fb,ptr0 sb,ptr0 gb,ptr0 kb]
structure MkE (w0 w:World) (fb sb gb kb mb:Nat) (rv nv lv pv:Value) (st:Int):Prop where
 low:Below w0.heap.size w0 w
 grm:w.heap[gb]? = some (.cells #[rv,nv,lv,pv,.int .i64 st] 27)
 fn:w.heap[kb]? = some (.cells #[mrkV fb sb gb kb] 130)
 gm:gb ≠ mb
 km:kb ≠ mb
 m0:w0.heap.size ≤ mb
theorem MkE.keep {w0 w u:World} {fb sb gb kb mb:Nat} {rv nv lv pv:Value} {st:Int} (h:MkE w0 w fb sb gb kb mb rv nv lv pv st) (hu:Kept (oneBlk mb) w u):MkE w0 u fb sb gb kb mb rv nv lv pv st:=
 ⟨h.low.trans (hu.below (fun k e => by rw [show k = mb from e];exact h.m0) h.low.size),hu.blk h.grm h.gm,hu.blk h.fn h.km,h.gm,h.km,h.m0⟩
abbrev MkA (g:Gm) (fb sb mb:Nat) (L:List Bool) (s:Int) (w:World):Ending → World → Prop:=fun e w' => e = .returned (.tuple #[]) ∧ ∃ L',MkM w' fb sb mb g.terms L' ∧ MkPost g L L' s ∧ Kept (oneBlk mb) w w'
set_option maxRecDepth 20000 in
set_option maxHeartbeats 16000000 in
theorem markStep (g:Gm) (hg:SndG g) (w0:World) (fb sb gb kb mb:Nat) (rv nv lv pv:Value) (st:Int) (hV:GmV w0 rv nv lv pv g) (L:List Bool) (s:Int) (w:World) (hLn:L.length = g.nonts.length) (hM:MkM w fb sb mb g.terms L) (hE:MkE w0 w fb sb gb kb mb rv nv lv pv st) (hsa:s ≤ (g.all:Int))
 (H:∀ (C:List Bool) (r:Int) (u:World),offN C + 1 ≤ offN L → C.length = g.nonts.length → MkM u fb sb mb g.terms C → MkE w0 u fb sb gb kb mb rv nv lv pv st → r ≤ (g.all:Int) → Calls Tryz.prog 95 #[.int .i64 r,ptr0 fb,ptr0 sb,ptr0 gb,ptr0 kb] u (MkA g fb sb mb C r u)) :
 Calls Tryz.prog 95 #[.int .i64 s,ptr0 fb,ptr0 sb,ptr0 gb,ptr0 kb] w (MkA g fb sb mb L s w):=by
 obtain ⟨c0,c1⟩:=hM.c0
 have hr:=hg.rules
 have hn:=hg.nonts
 have hp:=hg.prods
 have ht:=terms_le g
 have hall:g.all = g.terms + g.nonts.length:=rfl
 by_cases hg1:s < (g.terms:Int) + 1
 · have hpost:Hid (MkA g fb sb mb L s w (.returned (.tuple #[])) w):=hid ⟨rfl,L,hM,MkPost.idle (fun h => by omega),Kept.refl _ _⟩
   generalize MkA g fb sb mb L s w = Q at *
   clear H hV hM hE hall
   generalize g.terms = tm at *
   go_enter Tryz.func95,Tryz.ntmps95
   go_wp2
   refine bodyPost_ret (results_none rfl _ _ _) rfl ?_
   exact hpost.out
 · have hj:(s - (g.terms:Int) - 1).toNat < L.length:=by omega
   have c2:=hM.at hj
   obtain ⟨j,hj2⟩:∃ j:Nat,(s - (g.terms:Int) - 1).toNat = j:=⟨_,rfl⟩
   have hsj:s = (g.terms:Int) + 1 + (j:Int):=by omega
   have hjL:j < L.length:=by omega
   have c2':w.cell? ⟨mb,j,none⟩ = some (.bool L[j]):=hM.at hjL
   clear c2
   cases hb:L[j] with
   | true =>
    rw [hb] at c2'
    have hpost:Hid (MkA g fb sb mb L s w (.returned (.tuple #[])) w):=hid ⟨rfl,L,hM,MkPost.idle (fun h => ⟨h,by rw [hj2,List.getElem?_eq_getElem hjL,hb]⟩),Kept.refl _ _⟩
    generalize MkA g fb sb mb L s w = Q at *
    clear H hV hM hE hall hb
    generalize g.terms = tm at *
    generalize L.length = N at *
    have hsub:s - ((tm:Int) + 1) = (j:Int):=by omega
    go_enter Tryz.func95,Tryz.ntmps95
    go_wp2
    refine bodyPost_ret (results_none rfl _ _ _) rfl ?_
    exact hpost.out
   | false =>
    rw [hb] at c2'
    have hmore:=mrk_count (tm:=g.terms) (s:=s) (L:=L) (by rw [hj2,List.getElem?_eq_getElem hjL,hb])
    rw [hj2] at hmore
    have hM1:=hM.set j
    have hI0:=MkL.start (g:=g) (L:=L) (s:=s) (by omega) (by omega)
    rw [hj2] at hI0
    have hK1:Kept (oneBlk mb) w (w.setCell ⟨mb,j,none⟩ (.bool true)):=set_kept
    have hfz:=hM.free j
    obtain ⟨w1,hw1⟩:∃ x,w.setCell ⟨mb,j,none⟩ (.bool true) = x:=⟨_,rfl⟩
    rw [hw1] at hM1 hK1
    obtain ⟨pa,pc,rfl⟩:=hV.prods.shape
    have hgc:Hid (∀ u,Kept (oneBlk mb) w u → u.cell? ⟨gb,3,none⟩ = some (.slice pa g.prods.length pc)):=hid (fun u hu => blk_cell (hE.keep hu).grm rfl)
    have hfc:Hid (∀ u,Kept (oneBlk mb) w u → u.cell? ⟨kb,0,none⟩ = some (mrkV fb sb gb kb)):=hid (fun u hu => blk_cell (hE.keep hu).fn rfl)
    have hKp:Hid (∀ u,Kept (oneBlk mb) w u → ∀ i (hi:i < g.prods.length),∃ b o q1 q3,pa = some ⟨b,o,none⟩ ∧ u.cell? ⟨b,o + i * 3,none⟩ = some (.int .i64 g.prods[i].left) ∧ u.cell? ⟨b,o + i * 3 + 1,none⟩ = some (.slice q1 g.prods[i].right.length q3) ∧ u.cell? ⟨b,o + i * 3 + 2,none⟩ = some (.int .i64 g.prods[i].prec) ∧ ∀ u',Kept (oneBlk mb) w u' → ∀ k (hk:k < g.prods[i].right.length),∃ b' o',q1 = some ⟨b',o',none⟩ ∧ u'.cell? ⟨b',o' + k,none⟩ = some (.int .i64 g.prods[i].right[k])):=hid (fun u hu i hi => by
     obtain ⟨b0,o0,e0,hb0,v,h0,h1,h2,hN⟩:=hV.prods.at hi
     obtain ⟨q1,q3,rfl,-⟩:=id hN
     have hu0:=(hE.keep hu).low
     refine ⟨b0,o0,q1,q3,e0,keep_cell hu0 h0,keep_cell hu0 h1,keep_cell hu0 h2,fun u' hu' k hk => ?_⟩
     obtain ⟨b',o',cap,e',_,_,hc⟩:=(hN.keep (hE.keep hu').low).at (by omega)
     injection e' with e1 _ _
     exact ⟨b',o',e1,hc k hk⟩)
    have hcall:Hid (∀ u (C:List Bool) i (hi:i < g.prods.length) k (hk:k < g.prods[i].right.length),Kept (oneBlk mb) w u → MkM u fb sb mb g.terms C → MkL g L C s i k → offN C + 1 ≤ offN L → Calls Tryz.prog 95 #[.int .i64 g.prods[i].right[k],ptr0 fb,ptr0 sb,ptr0 gb,ptr0 kb] u (MkA g fb sb mb C g.prods[i].right[k] u)):=hid (fun u C i hi k hk hu hMu hI hoff => by
     refine H C g.prods[i].right[k] u hoff (hI.len.trans hLn) hMu (hE.keep hu) ?_
     have:=hg.prod _ (List.getElem_mem hi)
     unfold pdB at this
     simp only [Bool.and_eq_true,decide_eq_true_eq,List.all_eq_true] at this
     exact (this.2 _ (List.getElem_mem hk)).2)
    have hfin:Hid (∀ u (C:List Bool) i k,g.prods.length ≤ i → Kept (oneBlk mb) w u → MkM u fb sb mb g.terms C → MkL g L C s i k → MkA g fb sb mb L s w (.returned (.tuple #[])) u):=hid (fun u C i k hi hu hMu hI => ⟨rfl,C,hMu,hI.post hi (by omega),hu⟩)
    have hstep:Hid (∀ (C C':List Bool) i (hi:i < g.prods.length) k (hk:k < g.prods[i].right.length),MkL g L C s i k → g.prods[i].left = s → offN C + 1 ≤ offN L → MkPost g C C' g.prods[i].right[k] → MkL g L C' s i (k + 1) ∧ offN C' + 1 ≤ offN L):=hid (fun C C' i hi k hk hI hl hoff hP => ⟨hI.sym hi hk hl hP,by have:=offN_le hP.len hP.sub;omega⟩)
    have hnext:Hid (∀ (C:List Bool) i (hi:i < g.prods.length) k,MkL g L C s i k → (g.prods[i].left = s → g.prods[i].right.length ≤ k) → MkL g L C s (i + 1) 0):=hid (fun C i hi k hI h => hI.next hi h)
    have hrl:Hid (∀ i (hi:i < g.prods.length),g.prods[i].right.length ≤ 8):=hid (fun i hi => by
     have:=hg.prod _ (List.getElem_mem hi)
     unfold pdB at this
     simp only [Bool.and_eq_true,decide_eq_true_eq] at this
     exact this.1.1.1.2)
    generalize MkA g fb sb mb L s w = Q at *
    have hI0:=hid hI0
    have hM1:=hid hM1
    have hK1:=hid hK1
    have hoff0:=hid (show offN (L.set j true) + 1 ≤ offN L by omega)
    have g1:=hgc.out w1 hK1.out
    have hsub:s - ((g.terms:Int) + 1) = (j:Int):=by omega
    obtain ⟨pn,hpn⟩:∃ n,Hid (g.prods.length = n):=⟨_,hid rfl⟩
    rw [hpn.out] at hp g1 hgc
    have htz:g.terms ≤ 16:=by omega
    have hN16:L.length ≤ 16:=by omega
    obtain ⟨tm,htm⟩:∃ n,Hid (g.terms = n):=⟨_,hid rfl⟩
    clear H hV hM hE hall hb hg hmore hr hn ht hj hLn
    rw [htm.out] at c0 hg1 hsj hsub htz
    generalize L.length = N at c1 hjL hN16
    clear hj2
    go_enter Tryz.func95,Tryz.ntmps95
    go_wp2
    clear hw1 g1 c0 c1 c2' hfz
    go_loopw [29] (fun x wr => ∃ (i:Nat) (C:List Bool),i ≤ pn ∧ x = .int .i64 (i:Int) ∧ Hid (MkM wr fb sb mb g.terms C) ∧ Hid (MkL g L C s i 0) ∧ Hid (offN C + 1 ≤ offN L) ∧ Hid (Kept (oneBlk mb) w wr)) (fun x _ => pn - (intOf x).toNat)
    case atStart => exact ⟨0,_,Nat.zero_le _,rfl,hM1,hI0,hoff0,hK1⟩
    case round =>
     obtain ⟨i,C,hi,rfl,hMw,hI,hoff,hK⟩:=hrel
     by_cases hlt:i < pn
     · have hltz:(i:Int) < (pn:Int):=by omega
       have hil:i < g.prods.length:=by rw [hpn.out];exact hlt
       obtain ⟨b,o,q1,q3,rfl,d0,d1,d2,hsy0⟩:=hKp.out wr hK.out i hil
       have hsy:=hid hsy0
       clear hsy0
       have hal:=al' wr (.cells #[.int .i64 g.prods[i].left,.slice q1 g.prods[i].right.length q3,.int .i64 g.prods[i].prec] 43)
       have hMa:=hid (hMw.out.keep hal)
       have hKa:=hid (hK.out.trans (Kept.of_below hal))
       have hR8:=hrl.out i hil
       by_cases hle:g.prods[i].left = s
       · have hlez:(g.prods[i].left != (tm:Int) + 1 + (j:Int)) = false:=by rw [hle,hsj];simp
         have hle9:=hid hle
         clear hle
         obtain ⟨rl,hrl9⟩:∃ n,Hid (g.prods[i].right.length = n):=⟨_,hid rfl⟩
         rw [hrl9.out] at d1 hR8 hal hMa hKa
         clear hMw hK hal
         obtain ⟨v1,hv1⟩:∃ x,Hid (g.prods[i].left = x):=⟨_,hid rfl⟩
         obtain ⟨v3,hv3⟩:∃ x,Hid (g.prods[i].prec = x):=⟨_,hid rfl⟩
         rw [hv1.out] at d0 hlez hMa hKa
         rw [hv3.out] at d2 hMa hKa
         go_wp2
         clear d0 d1 d2 hlez
         obtain ⟨wa,hwa⟩:∃ x,wr.alloc (.cells #[.int .i64 v1,.slice q1 rl q3,.int .i64 v3] 43) = x:=⟨_,rfl⟩
         rw [hwa] at hMa hKa ⊢
         clear hwa
         go_loopw [40] (fun x wr => ∃ (k:Nat) (C:List Bool),k ≤ rl ∧ x = .int .i64 (k:Int) ∧ Hid (MkM wr fb sb mb g.terms C) ∧ Hid (MkL g L C s i k) ∧ Hid (offN C + 1 ≤ offN L) ∧ Hid (Kept (oneBlk mb) w wr)) (fun x _ => rl - (intOf x).toNat)
         case atStart => exact ⟨0,C,Nat.zero_le _,rfl,hMa,hI,hoff,hKa⟩
         case round =>
          obtain ⟨k,C2,hk,rfl,hM2,hI2,hoff2,hK2⟩:=hrel
          by_cases hlt2:k < rl
          · have hltz2:(k:Int) < (rl:Int):=by omega
            have hkl:k < g.prods[i].right.length:=by rw [hrl9.out];exact hlt2
            obtain ⟨b',o',rfl,e0⟩:=hsy.out wr hK2.out k hkl
            have e1:=hfc.out wr hK2.out
            have G:=hid (hcall.out wr C2 i hil k hkl hK2.out hM2.out hI2.out hoff2.out)
            have hst9:=hid (fun C' hP => hstep.out C2 C' i hil k hkl hI2.out hle9.out hoff2.out hP)
            generalize g.prods[i].right[k] = r at *
            go_wp2_with (go_at_call 95;refine G.out.mono ?_;clear G;rintro e w4 ⟨rfl,C3,hM3,hP3,hK3⟩;obtain ⟨hI3,hoff3⟩:=hst9.out C3 hP3;have hM3:=hid hM3;have hI3:=hid hI3;have hoff3:=hid hoff3;have hK3:=hid (hK2.out.trans hK3);clear hP3)
            go_roundw
            case rel => exact ⟨k + 1,C3,by omega,by go_num,hM3,hI3,hoff3,hK3⟩
            case measure => simp [intOf];omega
          · have hltz2:¬ (k:Int) < (rl:Int):=by omega
            have hI9:=hid (hnext.out C2 i hil k hI2.out (fun _ => by rw [hrl9.out];omega))
            go_wp2
            go_roundw
            case rel => exact ⟨i + 1,C2,by omega,by go_num,hM2,hI9,hoff2,hK2⟩
            case measure => simp [intOf];omega
       · have hlez:(g.prods[i].left != (tm:Int) + 1 + (j:Int)) = true:=bne_iff_ne.2 (fun h => hle (h.trans hsj.symm))
         have hI9:=hid (hnext.out C i hil 0 hI.out (fun h => absurd h hle))
         clear hI hMw hK hal hsy
         generalize g.prods[i].left = v1 at *
         generalize g.prods[i].right.length = v2 at *
         generalize g.prods[i].prec = v3 at *
         go_wp2
         go_roundw
         case rel => exact ⟨i + 1,C,by omega,by go_num,hMa,hI9,hoff,hKa⟩
         case measure => simp [intOf];omega
     · have hltz:¬ (i:Int) < (pn:Int):=by omega
       have hend:=hid (hfin.out wr C i 0 (by rw [hpn.out];omega) hK.out hMw.out hI.out)
       go_wp2
       refine bodyPost_ret (results_none rfl _ _ _) rfl ?_
       exact hend.out
set_option maxRecDepth 20000 in
theorem markC (g:Gm) (hg:SndG g) (w0:World) (fb sb gb kb mb:Nat) (rv nv lv pv:Value) (st:Int) (hV:GmV w0 rv nv lv pv g):∀ (f:Nat) (L:List Bool) (s:Int) (w:World),offN L ≤ f → L.length = g.nonts.length → MkM w fb sb mb g.terms L → MkE w0 w fb sb gb kb mb rv nv lv pv st → s ≤ (g.all:Int) →
 Calls Tryz.prog 95 #[.int .i64 s,ptr0 fb,ptr0 sb,ptr0 gb,ptr0 kb] w (MkA g fb sb mb L s w):=by
 intro f
 induction f with
 | zero =>
  intro L s w hf hLn hM hE hsa
  exact markStep g hg w0 fb sb gb kb mb rv nv lv pv st hV L s w hLn hM hE hsa (fun C r u hC => by omega)
 | succ f ih =>
  intro L s w hf hLn hM hE hsa
  exact markStep g hg w0 fb sb gb kb mb rv nv lv pv st hV L s w hLn hM hE hsa (fun C r u hC hCn hM' hE' hr => ih C r u (by omega) hCn hM' hE' hr)
end Go.Proofs.YtfhokapfkclckaaGreat
namespace Go.Proofs.YtfhokapfkclckaaGreat
def mksL (tm:Nat) (L:List Bool):Nat → List Int
 | 0 => []
 | k + 1 => mksL tm L k ++ (if L.getD k false then [(tm:Int) + 1 + (k:Int)] else [])
theorem mksL_mem (tm:Nat) (L:List Bool) (x:Int):∀ k,x ∈ mksL tm L k ↔ Mrk tm L x ∧ x ≤ (tm:Int) + (k:Int)
 | 0 => by
  unfold mksL Mrk
  constructor
  · intro h;cases h
  · rintro ⟨⟨h1,_⟩,h2⟩
    omega
 | k + 1 => by
  unfold mksL
  rw [List.mem_append,mksL_mem tm L x k]
  unfold Mrk
  rw [List.getD_eq_getElem?_getD]
  by_cases e:x = (tm:Int) + 1 + (k:Int)
  · subst e
    rw [show ((tm:Int) + 1 + (k:Int) - (tm:Int) - 1).toNat = k by omega]
    cases h:L[k]? with
    | none => simp
    | some b => cases b <;> simp <;> omega
  · have h1:x ∉ (if (L[k]?.getD false) = true then [(tm:Int) + 1 + (k:Int)] else []):=by
     split
     · rw [List.mem_singleton];exact e
     · exact List.not_mem_nil
    constructor
    · rintro (⟨h2,h3⟩ | h2)
      · exact ⟨h2,by omega⟩
      · exact absurd h2 h1
    · rintro ⟨h2,h3⟩
      exact .inl ⟨h2,by omega⟩
theorem mksL_up (tm:Nat) (L:List Bool):∀ k,Up (mksL tm L k)
 | 0 => List.Pairwise.nil
 | k + 1 => by
  unfold mksL
  show List.Pairwise _ _
  rw [List.pairwise_append]
  refine ⟨mksL_up tm L k,?_,fun a ha b hb => ?_⟩
  · split
    · exact List.pairwise_singleton _ _
    · exact List.Pairwise.nil
  · have:=(mksL_mem tm L a k).1 ha
    split at hb
    · rw [List.mem_singleton] at hb
      omega
    · cases hb
theorem mksL_len (tm:Nat) (L:List Bool):∀ k,(mksL tm L k).length ≤ k
 | 0 => Nat.le_refl _
 | k + 1 => by
  have:=mksL_len tm L k
  unfold mksL
  rw [List.length_append]
  split
  · rw [List.length_singleton];omega
  · rw [List.length_nil];omega
theorem mksL_is {tm:Nat} {L:List Bool} {l:List Int} (h:∀ n,Mrk tm L n ↔ n ∈ l):mksL tm L L.length = ofL l:=by
 refine up_uniq (mksL_up _ _ _) (ofL_up _) (fun x => ?_)
 rw [mksL_mem,ofL_mem,← h]
 refine ⟨fun h => h.1,fun hx => ⟨hx,?_⟩⟩
 have:=hx.2
 have hlt:(x - (tm:Int) - 1).toNat < L.length:=by
  refine Classical.byContradiction fun hno => ?_
  rw [List.getElem?_eq_none (by omega)] at this
  cases this
 have:=hx.1
 omega
end Go.Proofs.YtfhokapfkclckaaGreat
namespace Go.Proofs.YtfhokapfkclckaaGreat
open Go.RowKit Go.Maps Go.Sort
def MkV (w:World) (v:Value) (L:List Bool):Prop:=∃ mb,v = .slice (some ⟨mb,0,none⟩) L.length L.length ∧ w.heap[mb]? = some (.cells (L.map Value.bool).toArray 4)
theorem made_bools (N:Nat):madeCells #[.bool false] N = ((List.replicate N false).map Value.bool).toArray:=by
 apply Array.ext
 · simp [size_madeCells]
 · intro i h1 h2
   simp [madeCells,Nat.mod_one]
theorem mk_made (W2:World) (fb tm N:Nat) (hf:W2.heap[fb]? = some (.cells #[.int .i64 ((tm:Int) + 1)] 3)) :
 MkM ((W2.alloc (.cells (madeCells #[.bool false] N) 4)).alloc (.cells #[.slice (some ⟨W2.heap.size,0,none⟩) N N] 50)) fb (W2.heap.size + 1) W2.heap.size tm (List.replicate N false):=by
 have hlt:=blk_lt hf
 have h1:=two_blocks W2 (.cells (madeCells #[.bool false] N) 4) (.cells #[.slice (some ⟨W2.heap.size,0,none⟩) N N] 50)
 refine ⟨?_,?_,?_,by omega,by omega⟩
 · exact hs_keep hf (bl_step (al' W2 _) (al' _ _))
 · rw [List.length_replicate]
   exact h1.2
 · rw [← made_bools]
   exact h1.1
theorem rch_all {g:Gm} (hg:SndG g) {L':List Bool} (h:MkPost g (List.replicate g.nonts.length false) L' g.start) (n:Int):Mrk g.terms L' n ↔ Rch g n:=by
 rcases Nat.eq_zero_or_pos g.nonts.length with h0 | h0
 · constructor
   · intro hn
     have h1:=h.len
     rw [List.length_replicate,h0] at h1
     have h2:=hn.2
     rw [List.eq_nil_of_length_eq_zero h1] at h2
     cases h2
   · intro hn
     have:=hn.range hg
     unfold Gm.all at this
     omega
 · exact h.all (hg.start h0).1 n
set_option maxRecDepth 20000 in
set_option maxHeartbeats 16000000 in
theorem markR (g:Gm) (hg:SndG g) (rv nv lv pv:Value) (w:World) (hV:GmV w rv nv lv pv g) :
 Calls Tryz.prog 76 #[gmA rv nv lv pv g.start] w fun e w' => ∃ v L,e = .returned v ∧ MkV w' v L ∧ L.length = g.nonts.length ∧ (∀ n,Mrk g.terms L n ↔ Rch g n) ∧ Below w.heap.size w w':=by
 have hr:=hg.rules
 have hn:=hg.nonts
 obtain ⟨na,nc,rfl⟩:=hV.nonts.shape
 have hB1:=al' w (.cells #[rv,.slice na g.nonts.length nc,lv,pv,.int .i64 g.start] 27)
 have k1:=heap_new w (.cells #[rv,.slice na g.nonts.length nc,lv,pv,.int .i64 g.start] 27)
 obtain ⟨W,hW⟩:∃ x,w.alloc (.cells #[rv,.slice na g.nonts.length nc,lv,pv,.int .i64 g.start] 27) = x:=⟨_,rfl⟩
 rw [hW] at hB1 k1
 have G:=hid (firstC rv _ lv pv g g.start W (hV.keep hB1) (by omega))
 obtain ⟨x0,x1,x2,x3,x4⟩:=cells5m k1
 have hst:g.start ≤ (g.all:Int):=by
  rcases Nat.eq_zero_or_pos g.nonts.length with h0 | h0
  · have:=hg.none h0;omega
  · exact (hg.start h0).2
 have hmain:Hid (∀ w1,Below W.heap.size W w1 → ∀ W2,w1.alloc (.cells #[.int .i64 ((g.terms:Int) + 1)] 3) = W2 → ∀ W4,(W2.alloc (.cells (madeCells #[.bool false] g.nonts.length) 4)).alloc (.cells #[.slice (some ⟨W2.heap.size,0,none⟩) g.nonts.length g.nonts.length] 50) = W4 → ∀ W5,W4.alloc (.cells #[mrkV w1.heap.size (W2.heap.size + 1) w.heap.size W4.heap.size] 130) = W5 →
  W5.cell? ⟨W4.heap.size,0,none⟩ = some (mrkV w1.heap.size (W2.heap.size + 1) w.heap.size W4.heap.size) ∧ W5.cell? ⟨w.heap.size,4,none⟩ = some (.int .i64 g.start) ∧
  Calls Tryz.prog 95 #[.int .i64 g.start,ptr0 w1.heap.size,ptr0 (W2.heap.size + 1),ptr0 w.heap.size,ptr0 W4.heap.size] W5 fun e w' => e = .returned (.tuple #[]) ∧ ∃ L,w'.cell? ⟨W2.heap.size + 1,0,none⟩ = some (.slice (some ⟨W2.heap.size,0,none⟩) L.length L.length) ∧ MkV w' (.slice (some ⟨W2.heap.size,0,none⟩) L.length L.length) L ∧ L.length = g.nonts.length ∧ (∀ n,Mrk g.terms L n ↔ Rch g n) ∧ Below w.heap.size w w'):=hid (fun w1 h1 W2 e2 W4 e4 W5 e5 => by
  have hB2:Below w1.heap.size w1 W2:=by rw [← e2];exact al' w1 _
  have z2:W2.heap.size = w1.heap.size + 1:=by rw [← e2];exact World.size_alloc ..
  have hf:W2.heap[w1.heap.size]? = some (.cells #[.int .i64 ((g.terms:Int) + 1)] 3):=by rw [← e2];exact heap_new w1 _
  have hB4:Below W2.heap.size W2 W4:=by rw [← e4];exact bl_step (al' W2 _) (al' _ _)
  have z4:W4.heap.size = W2.heap.size + 2:=by rw [← e4,World.size_alloc,World.size_alloc]
  have hM4:=mk_made W2 w1.heap.size g.terms g.nonts.length hf
  rw [e4] at hM4
  have hB5:Below W4.heap.size W4 W5:=by rw [← e5];exact al' W4 _
  have h5:W5.heap[W4.heap.size]? = some (.cells #[mrkV w1.heap.size (W2.heap.size + 1) w.heap.size W4.heap.size] 130):=by rw [← e5];exact heap_new W4 _
  have hM5:=hM4.keep hB5
  have hBW:Below W.heap.size W W5:=bl_step (bl_step (bl_step h1 hB2) hB4) hB5
  have hBw:Below w.heap.size w W5:=bl_step hB1 hBW
  have zW:w.heap.size < W.heap.size:=blk_lt k1
  have z1:W.heap.size ≤ w1.heap.size:=h1.size
  have hk5:=hs_keep k1 hBW
  have hE:MkE w W5 w1.heap.size (W2.heap.size + 1) w.heap.size W4.heap.size W2.heap.size rv (.slice na g.nonts.length nc) lv pv g.start:=⟨hBw,hk5,h5,by omega,by omega,by omega⟩
  refine ⟨blk_cell h5 rfl,blk_cell hk5 rfl,?_⟩
  refine (markC g hg w _ _ _ _ _ _ _ _ _ _ hV _ (List.replicate g.nonts.length false) g.start W5 (Nat.le_refl _) (List.length_replicate ..) hM5 hE hst).mono ?_
  rintro e w' ⟨rfl,L',hM',hP',hK'⟩
  refine ⟨rfl,L',hM'.c0.2,⟨_,rfl,hM'.row⟩,by rw [hP'.len,List.length_replicate],rch_all hg hP',?_⟩
  exact (hE.keep hK').low)
 have ht:=terms_le g
 have hmk:=run_make_row' (P:=Tryz.prog) 50 4 (.bool false) 1 Tryz.underlying50 Tryz.infoB4 rfl .i64 .i64 g.nonts.length (by omega) (by omega)
 have hx1:=hid (fun u (hu:Below W.heap.size W u) => keep_cell hu x1)
 have hx4:=hid (fun u (hu:Below W.heap.size W u) => keep_cell hu x4)
 clear hV hB1 k1 hst hg
 obtain ⟨tm,htm⟩:∃ n,Hid (g.terms = n):=⟨_,hid rfl⟩
 obtain ⟨nn,hnn⟩:∃ n,Hid (g.nonts.length = n):=⟨_,hid rfl⟩
 obtain ⟨st,hst⟩:∃ n,Hid (g.start = n):=⟨_,hid rfl⟩
 rw [htm.out] at G ht hmain ⊢
 rw [hnn.out] at G hn hW x1 hmain hmk hx1 ⊢
 rw [hst.out] at G hW x4 hmain hx4 ⊢
 go_enter Tryz.func76,Tryz.ntmps76
 go_wp2_with (first
  | (go_at_call 90;refine G.out.mono ?_;clear G;rintro e w1 ⟨rfl,hc1⟩
     have hx1:=hx1.out w1 hc1
     obtain ⟨W2,hW2⟩:∃ x,w1.alloc (.cells #[.int .i64 ((tm:Int) + 1)] 3) = x:=⟨_,rfl⟩
     have hx2:=keep_cell (show Below w1.heap.size w1 W2 by rw [← hW2];exact al' w1 _) hx1
     obtain ⟨W4,hW4⟩:∃ x,(W2.alloc (.cells (madeCells #[.bool false] nn) 4)).alloc (.cells #[.slice (some ⟨W2.heap.size,0,none⟩) nn nn] 50) = x:=⟨_,rfl⟩
     obtain ⟨W5,hW5⟩:∃ x,W4.alloc (.cells #[mrkV w1.heap.size (W2.heap.size + 1) w.heap.size W4.heap.size] 130) = x:=⟨_,rfl⟩
     obtain ⟨y0,y1,G1⟩:=hmain.out w1 hc1 W2 hW2 W4 hW4 W5 hW5
     have G2:=hid G1
     clear G1 hmain hc1)
  | (go_at_call 95;refine G2.out.mono ?_;clear G2;rintro e w9 ⟨rfl,L,hs9,hV9,hL9,hR9,hB9⟩
     have hend:=hid (And.intro hV9 (And.intro hL9 (And.intro hR9 hB9)))
     clear hV9 hL9 hR9 hB9))
 go_ret
 exact ⟨_,L,rfl,hend.out.1,hend.out.2.1,hend.out.2.2.1,hend.out.2.2.2⟩
end Go.Proofs.YtfhokapfkclckaaGreat
