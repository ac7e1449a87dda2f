/- Span of package bytes. The reader: an item of a class. == and != on sets of bytes. The reader: a class; point. -/
import Derived.Test.YtbpnioehmohbcaaGreatJ6
import Derived.Test.YtbpnioehmohbcaaGreatJ4
import Derived.Deep.RegionHeld3
namespace Go.Proofs.YtbpnioehmohbcaaGreat
open Go.RowKit
def addN (S:W4) (p:Nat → Bool):Nat → W4
 | 0 => S
 | k + 1 => if p k then putB (addN S p k) k else addN S p k
theorem addN_yes {S:W4} {p:Nat → Bool} {k:Nat} (h:p k = true):addN S p (k + 1) = putB (addN S p k) k:=by rw [addN,if_pos h]
theorem addN_fit {S:W4} (h:Fit4 S) (p:Nat → Bool):∀ k,Fit4 (addN S p k)
 | 0 => h
 | k + 1 => by
  unfold addN
  cases p k with
  | true => simpa using putB_fit (addN_fit h p k) k
  | false => simpa using addN_fit h p k
theorem addN_has (S:W4) (p:Nat → Bool):∀ k,k ≤ 256 → ∀ x,x < 256 → hasB (addN S p k) x = (hasB S x || (decide (x < k) && p x))
 | 0,_,x,_ => by rw [addN];simp
 | k + 1,hk,x,hx => by
  have ih:=addN_has S p k (by omega) x hx
  unfold addN
  by_cases e:x = k
  · subst e
    cases hp:p x with
    | true => simp [putB_has _ x x hx hx]
    | false => simp [ih]
  · have h1:decide (x < k + 1) = decide (x < k):=by rw [decide_eq_decide];omega
    rw [h1,← ih]
    cases p k with
    | true => simp [putB_has _ k x (by omega) hx,e]
    | false => simp
theorem span_low (f k:Nat) (h:k ≤ f) (hf:f ≤ 256):addN noneB (fun x => decide (f ≤ x)) k = noneB:=
 set_ext (addN_fit noneB_fit _ _) noneB_fit fun x hx => by
  rw [addN_has _ _ k (by omega) x hx,noneB_has]
  have:(decide (x < k) && decide (f ≤ x)) = false:=by
   by_cases h1:x < k
   · have h2:¬ f ≤ x:=by omega
     simp [h2]
   · simp [h1]
  rw [this];rfl
theorem span_end (f t k:Nat) (ht:t < 256) (h:k = t + 1 ∨ (t < f ∧ k = f)) (hf:f < 256):addN noneB (fun x => decide (f ≤ x)) k = spanB f t:=by
 refine mkB_eq (addN_fit noneB_fit _ _) fun x hx => ?_
 rw [addN_has _ _ k (by omega) x hx,noneB_has,Bool.false_or,Bool.eq_iff_iff]
 simp only [Bool.and_eq_true,decide_eq_true_eq]
 omega
theorem set_w (S:W4) (i v x:Nat) (hi:i < 4) (hx:x < 256):hasB (S.set i v) x = if x / 64 = i then v.testBit (x % 64) else hasB S x:=by
 unfold hasB
 by_cases e:x / 64 = i
 · rw [if_pos e,e,W4.set_same]
 · rw [if_neg e,W4.set_other _ _ _ _ hi (by omega) e]
theorem putB_or {Q:W4} (hQ:Fit4 Q) (k:Nat) (hk:k < 256):putB Q k = Q.set (k / 64) (Q.w (k / 64) ||| 2 ^ (k % 64)):=by
 have h2:2 ^ (k % 64) < 18446744073709551616:=Nat.pow_lt_pow_right (a:=2) (by omega) (by omega:k % 64 < 64)
 refine set_ext (putB_fit hQ k) (hQ.set _ _ (Nat.or_lt_two_pow (n:=64) (hQ.w _) h2)) fun x hx => ?_
 rw [putB_has Q k x hk hx,set_w _ _ _ _ (by omega) hx,Nat.testBit_or,Nat.testBit_two_pow]
 by_cases e:x / 64 = k / 64
 · rw [if_pos e,← e]
   unfold hasB
   congr 1
   rw [decide_eq_decide]
   omega
 · rw [if_neg e]
   have:¬ x = k:=fun h => e (by rw [h])
   simp [this]
set_option maxRecDepth 20000 in
set_option maxHeartbeats 4000000 in
theorem spanC (f t:Nat) (w:World) (hf:f < 256) (ht:t < 256) :
 Calls Tryz.prog 189 #[.int .u8 (f:Int),.int .u8 (t:Int)] w fun e w' => e = .returned (valB (spanB f t)) ∧ Below w.heap.size w w':=by
 obtain ⟨p,hp⟩:∃ p:Nat → Bool,Hid (p = fun x => decide (f ≤ x)):=⟨_,hid rfl⟩
 obtain ⟨R,hR⟩:∃ R,Hid (spanB f t = R):=⟨_,hid rfl⟩
 have hlast:Hid (∀ k,(k = t + 1 ∨ (t < f ∧ k = f)) → addN noneB p k = R):=hid (fun k hk => by rw [hp.out,← hR.out];exact span_end f t k ht hk hf)
 have hfirst:Hid (addN noneB p f = noneB):=hid (by rw [hp.out];exact span_low f f (Nat.le_refl _) (by omega))
 have hyes:Hid (∀ k,f ≤ k → p k = true):=hid (fun k hk => by rw [hp.out];exact decide_eq_true hk)
 rw [show spanB f t = R from hR.out]
 have hfit:=hid (addN_fit noneB_fit p)
 obtain ⟨ra,rb,rc,rd⟩:=R
 clear hR hp
 go_enter Tryz.func189,Tryz.ntmps189
 go_wp2
 go_loopw [6] (fun i wr => ∃ k:Nat,f ≤ k ∧ (k ≤ t + 1 ∨ k = f) ∧ i = .int .i64 k ∧ Hid (Blk wr w.heap.size noneB) ∧ Hid (Blk wr (w.heap.size + 1) (addN noneB p k)) ∧ Below w.heap.size w wr) (fun i _ => 256 - (intOf i).toNat)
 case atStart => exact ⟨f,Nat.le_refl _,Or.inr rfl,by go_num,hid (two_blocks w _ _).1,by rw [hfirst.out];exact hid (two_blocks w _ _).2,bl_step (al' w _) (al' _ _)⟩
 case round =>
  obtain ⟨k,hk,hk2,rfl,bR0,bO0,hbl⟩:=hrel
  have htw:IntKind.i64.wrap (t:Int) = (t:Int):=by rw [IntKind.wrap_i64];omega
  by_cases hlt:k ≤ t
  · have hltz:(k:Int) ≤ (t:Int):=by omega
    have hQ:=hid (hfit.out k)
    have hy:=@addN_yes noneB p k (hyes.out k hk)
    generalize addN noneB p k = Q at hQ hy bO0
    rw [putB_or hQ.out k (by omega)] at hy
    have hk8:IntKind.u8.wrap (k:Int) = (k:Int):=by rw [IntKind.wrap_u8];omega
    have hqz:(k:Int) / 64 = ((k / 64:Nat):Int):=by omega
    have hql:k / 64 = 0 ∨ k / 64 = 1 ∨ k / 64 = 2 ∨ k / 64 = 3:=by omega
    have GB:=hid (fun u => bitC k u (by omega))
    have hm:2 ^ (k % 64) < 18446744073709551616:=Nat.pow_lt_pow_right (a:=2) (by omega) (by omega:k % 64 < 64)
    generalize 2 ^ (k % 64) = m at hy GB hm
    generalize k / 64 = q at hy hqz hql
    have hbd:Below wr.heap.size wr wr.drew:=(Below.refl _ _).drew
    have bR1:=hid (bR0.out.keep hbd)
    have bO1:=hid (bO0.out.keep hbd)
    have hbl1:=bl_step hbl hbd
    obtain ⟨a,b,c,d⟩:=Q
    obtain ⟨o0,o1,o2,o3,o4,o5,o6,o7⟩:=bO1.out.cells
    clear hfit hyes hlast
    rcases hql with rfl | rfl | rfl | rfl
    · have hor:=u64_or_nat a m hQ.out.a hm
      have hy':Hid (addN noneB p (k + 1) = ⟨a ||| m,b,c,d⟩):=hid hy
      generalize a ||| m = n at hor hy'
      clear hy hm
      have bO2:Hid (Blk (wr.drew.setCell ⟨w.heap.size + 1,0,none⟩ (.int .u64 (n:Int))) (w.heap.size + 1) ⟨n,b,c,d⟩):=hid (heap_setCell bO1.out)
      have bR2:Hid (Blk (wr.drew.setCell ⟨w.heap.size + 1,0,none⟩ (.int .u64 (n:Int))) w.heap.size noneB):=hid ((Below.heap_setCell _ _ _ _ (by simp)).trans bR1.out)
      go_wp2_with fail
      go_region_with (first
       | (go_at_call 185;refine (GB.out _).mono ?_;rintro e u1 ⟨rfl,hu⟩;subst u1)
       | fail)
      all_goals
       go_wp2
       exact ⟨⟨k + 1,by omega,by omega,by go_num,bR2,by rw [hy'.out];exact bO2,bl_set hbl1 _ _ _ (by omega)⟩,by simp [intOf];omega⟩
    · have hor:=u64_or_nat b m hQ.out.b hm
      have hy':Hid (addN noneB p (k + 1) = ⟨a,b ||| m,c,d⟩):=hid hy
      generalize b ||| m = n at hor hy'
      clear hy hm
      have bO2:Hid (Blk (wr.drew.setCell ⟨w.heap.size + 1,1,none⟩ (.int .u64 (n:Int))) (w.heap.size + 1) ⟨a,n,c,d⟩):=hid (heap_setCell bO1.out)
      have bR2:Hid (Blk (wr.drew.setCell ⟨w.heap.size + 1,1,none⟩ (.int .u64 (n:Int))) w.heap.size noneB):=hid ((Below.heap_setCell _ _ _ _ (by simp)).trans bR1.out)
      go_wp2_with fail
      go_region_with (first
       | (go_at_call 185;refine (GB.out _).mono ?_;rintro e u1 ⟨rfl,hu⟩;subst u1)
       | fail)
      all_goals
       go_wp2
       exact ⟨⟨k + 1,by omega,by omega,by go_num,bR2,by rw [hy'.out];exact bO2,bl_set hbl1 _ _ _ (by omega)⟩,by simp [intOf];omega⟩
    · have hor:=u64_or_nat c m hQ.out.c hm
      have hy':Hid (addN noneB p (k + 1) = ⟨a,b,c ||| m,d⟩):=hid hy
      generalize c ||| m = n at hor hy'
      clear hy hm
      have bO2:Hid (Blk (wr.drew.setCell ⟨w.heap.size + 1,2,none⟩ (.int .u64 (n:Int))) (w.heap.size + 1) ⟨a,b,n,d⟩):=hid (heap_setCell bO1.out)
      have bR2:Hid (Blk (wr.drew.setCell ⟨w.heap.size + 1,2,none⟩ (.int .u64 (n:Int))) w.heap.size noneB):=hid ((Below.heap_setCell _ _ _ _ (by simp)).trans bR1.out)
      go_wp2_with fail
      go_region_with (first
       | (go_at_call 185;refine (GB.out _).mono ?_;rintro e u1 ⟨rfl,hu⟩;subst u1)
       | fail)
      all_goals
       go_wp2
       exact ⟨⟨k + 1,by omega,by omega,by go_num,bR2,by rw [hy'.out];exact bO2,bl_set hbl1 _ _ _ (by omega)⟩,by simp [intOf];omega⟩
    · have hor:=u64_or_nat d m hQ.out.d hm
      have hy':Hid (addN noneB p (k + 1) = ⟨a,b,c,d ||| m⟩):=hid hy
      generalize d ||| m = n at hor hy'
      clear hy hm
      have bO2:Hid (Blk (wr.drew.setCell ⟨w.heap.size + 1,3,none⟩ (.int .u64 (n:Int))) (w.heap.size + 1) ⟨a,b,c,n⟩):=hid (heap_setCell bO1.out)
      have bR2:Hid (Blk (wr.drew.setCell ⟨w.heap.size + 1,3,none⟩ (.int .u64 (n:Int))) w.heap.size noneB):=hid ((Below.heap_setCell _ _ _ _ (by simp)).trans bR1.out)
      go_wp2_with fail
      go_region_with (first
       | (go_at_call 185;refine (GB.out _).mono ?_;rintro e u1 ⟨rfl,hu⟩;subst u1)
       | fail)
      all_goals
       go_wp2
       exact ⟨⟨k + 1,by omega,by omega,by go_num,bR2,by rw [hy'.out];exact bO2,bl_set hbl1 _ _ _ (by omega)⟩,by simp [intOf];omega⟩
  · have hltz:¬ (k:Int) ≤ (t:Int):=by omega
    rw [hlast.out k (by omega)] at bO0
    obtain ⟨o0,o1,o2,o3,o4,o5,o6,o7⟩:=bO0.out.cells
    obtain ⟨r0,r1,r2,r3,r4,r5,r6,r7⟩:=Blk.cells (sa:=0) (sb:=0) (sc:=0) (sd:=0) bR0.out
    clear hfit hyes
    go_wp2
    refine bodyPost_ret (v:=.agg #[.int .u64 ra,.int .u64 rb,.int .u64 rc,.int .u64 rd]) (by simp [results,Tryz.results189,go_sem,r0,r1,r2,r3]) rfl ⟨rfl,bl_put hbl ⟨ra,rb,rc,rd⟩ (by omega)⟩
end Go.Proofs.YtbpnioehmohbcaaGreat
namespace Go.Proofs.YtbpnioehmohbcaaGreat
open Go.RowKit
def itemP (q:Txt):Option (Nat × Nat × Txt):=
 match signF leftC q with
 | none => none
 | some (a,s1) =>
  if s1.head? == some 45 then
   match signF leftC s1.tail with
   | none => none
   | some (b,s2) => if b < a then none else some (a,b,s2)
  else some (a,a,s1)
theorem items_item (n:Nat) (first:Bool) (acc:W4) (s:Txt):itemsF (n + 1) first acc s =
 if !first && s.head? == some 93 then some (acc,s.tail) else
 match itemP s with
 | none => none
 | some (a,b,r) => itemsF n false (orB acc (spanB a b)) r:=by
 rw [itemsF]
 split
 · rfl
 unfold itemP
 cases signF leftC s with
 | none => rfl
 | some x =>
  obtain ⟨a,s1⟩:=x
  simp only
  split
  · cases signF leftC s1.tail with
    | none => rfl
    | some y =>
     obtain ⟨b,s2⟩:=y
     simp only
     split <;> rfl
  · rfl
theorem itemP_lt {q r:Txt} {a b:Nat} (h:itemP q = some (a,b,r)):r.length < q.length:=by
 unfold itemP at h
 split at h
 · cases h
 rename_i a' s1 hs
 have h1:=signF_lt hs
 split at h
 · split at h
   · cases h
   rename_i b' s2 hs2
   have h2:=signF_lt hs2
   have h3:s1.tail.length ≤ s1.length:=by simp
   split at h
   · cases h
   · injection h with h;injection h with _ h;injection h with _ h;subst h;omega
 · injection h with h;injection h with _ h;injection h with _ h;subst h;exact h1
theorem items_fuel:∀ (n:Nat) (first:Bool) (acc:W4) (s:Txt),s.length + 1 ≤ n → itemsF n first acc s = itemsF (n + 1) first acc s
 | 0,_,_,_,h => by omega
 | n + 1,first,acc,s,h => by
  rw [items_item,items_item (n + 1)]
  split
  · rfl
  cases e:itemP s with
  | none => rfl
  | some x =>
   obtain ⟨a,b,r⟩:=x
   have:=itemP_lt e
   exact items_fuel n false _ r (by omega)
theorem items_more {n m:Nat} {first:Bool} {acc:W4} {s:Txt} (h:s.length + 1 ≤ n) (h':n ≤ m):itemsF n first acc s = itemsF m first acc s:=by
 induction h' with
 | refl => rfl
 | step hm ih =>
  rename_i m
  have hm':n ≤ m:=hm
  exact ih.trans (items_fuel m first acc s (by omega))
theorem sign_byte {left:UInt8 → Bool} {q r:Txt} {b:Nat} (h:signF left q = some (b,r)):b < 256:=by
 cases q with
 | nil => cases h
 | cons c q =>
  simp only [signF] at h
  have hc:=c.toNat_lt
  split at h
  · cases h
  split at h
  · cases q with
    | nil => cases h
    | cons d q =>
     have hd:=d.toNat_lt
     by_cases h4:d = 120
     · subst h4
       rw [escF_hex] at h
       cases e1:hexP q with
       | none => rw [e1] at h;cases h
       | some x =>
        obtain ⟨a,r1⟩:=x
        have:=hexP_lt e1
        rw [e1] at h
        simp only at h
        cases e2:hexP r1 with
        | none => rw [e2] at h;cases h
        | some y =>
         obtain ⟨b',r2⟩:=y
         have:=hexP_lt e2
         rw [e2] at h
         injection h with h;injection h with h _
         omega
     · simp only [escF] at h
       rw [if_neg h4] at h
       split at h
       · injection h with h;injection h with h _;omega
       split at h
       · injection h with h;injection h with h _;omega
       split at h
       · injection h with h;injection h with h _;omega
       split at h
       · injection h with h;injection h with h _;omega
       · cases h
  split at h
  · cases h
  · injection h with h;injection h with h _;omega
abbrev faultE (n:Int):Ending:=.panicked [{ v:=.iface 166 (.int .i64 n),recovered:=false }]
def SaidI (res:Option (Nat × Nat × Txt)) (w:World) (rb:Nat) (v:Value) (s:Txt):Ending → World → Prop:=fun e w' =>
 (match res with
  | some (a,b,q) => e = .returned (valB (spanB a b)) ∧ At w' rb v s q
  | none => ∃ n,e = faultE n) ∧ Kept (oneBlk rb) w w'
theorem al_kept {w u:World} {F:Nat → Prop} (h:Kept F w u) (o:Obj):Kept F w (u.alloc o):=h.trans (Kept.of_below (al' u o))
theorem kept_put4 {F:Nat → Prop} {w u:World} (h:Kept F w u) {b:Nat} (S:W4) (hb:b < w.heap.size → F b):Kept F w (put4 u b S):=by
 unfold put4
 exact (((h.setCell (a:=⟨b,0,none⟩) hb).setCell (a:=⟨b,1,none⟩) hb).setCell (a:=⟨b,2,none⟩) hb).setCell (a:=⟨b,3,none⟩) hb
theorem At.put4 {w:World} {rb b:Nat} {v:Value} {s q:Txt} (h:At w rb v s q) (S:W4) (hne:rb ≠ b):At (Go.Proofs.YtbpnioehmohbcaaGreat.put4 w b S) rb v s q:=by
 obtain ⟨pre,h1,h2⟩:=h
 refine ⟨pre,h1,?_⟩
 show (World.setCell (World.setCell (World.setCell (World.setCell w _ _) _ _) _ _) _ _).heap[rb]? = _
 rw [Below.heap_setCell _ _ _ _ hne,Below.heap_setCell _ _ _ _ hne,Below.heap_setCell _ _ _ _ hne,Below.heap_setCell _ _ _ _ hne]
 exact h2
theorem Blk.kept {F:Nat → Prop} {w w':World} {b:Nat} {S:W4} (h:Blk w b S) (hk:Kept F w w') (hn:¬ F b):Blk w' b S:=hk.blk h hn
set_option maxRecDepth 20000 in
set_option maxHeartbeats 2000000 in
theorem itemC {w:World} {rb:Nat} {v:Value} {s q:Txt} (h:At w rb v s q) (hs:s.length ≤ 200) :
 Calls Tryz.prog 182 #[.pointer (some ⟨rb,0,none⟩)] w (SaidI (itemP q) w rb v s):=by
 have hrb:rb < w.heap.size:=by obtain ⟨_,_,hb⟩:=h;exact blk_lt hb
 have hpl:=h.place
 have h1:=h.keep (al' w (.cells #[.int .u64 0,.int .u64 0,.int .u64 0,.int .u64 0] 130))
 have GT:=hid (fun u q (hat:At u rb v s q) => toldC hat hs classS leftC tells_class)
 have b0:Hid (Blk (w.alloc (.cells #[.int .u64 0,.int .u64 0,.int .u64 0,.int .u64 0] 130)) w.heap.size noneB):=hid (heap_new w _)
 have k0:Hid (Kept (oneBlk rb) w (w.alloc (.cells #[.int .u64 0,.int .u64 0,.int .u64 0,.int .u64 0] 130))):=hid (Kept.of_below (al' w _))
 have hne:¬ oneBlk rb w.heap.size:=fun e => by have:w.heap.size = rb:=e;omega
 have hpl1:=h1.place
 have h1:=hid h1
 generalize plc s q = p at hpl hpl1
 cases e1:signF leftC q with
 | none =>
  have GT1:=hid (fun u (hat:At u rb v s q) => (show Calls _ _ _ _ (Said (plc s q) none u rb v s) by have:=GT.out u q hat;rwa [e1] at this))
  have hi:itemP q = none:=by unfold itemP;rw [e1]
  rw [hi]
  clear e1 GT hi h
  go_enter Tryz.func182,Tryz.ntmps182
  go_wp2_with (first
   | (go_at_call 181;refine (GT1.out _ h1.out).mono ?_;intro e w1 hw1;obtain ⟨he1,hk1⟩:=hw1.no;subst he1))
  exact ⟨rfl,⟨_,rfl⟩,k0.out.trans hk1⟩
 | some x =>
  obtain ⟨a,s1⟩:=x
  have ha:=sign_byte e1
  have GT1:=hid (fun u (hat:At u rb v s q) => (show Calls _ _ _ _ (Said (plc s q) (some (a,s1)) u rb v s) by have:=GT.out u q hat;rwa [e1] at this))
  by_cases h45:s1.head? = some 45
  · obtain ⟨s1',rfl⟩:∃ s1',s1 = 45 :: s1':=by
     cases s1 with
     | nil => cases h45
     | cons c t => injection h45 with h;subst h;exact ⟨t,rfl⟩
    have GK:=hid (fun u (hat:At u rb v s (45 :: s1')) => takeYes hat hs)
    rw [show ((45:UInt8).toNat:Int) = 45 from rfl] at GK
    cases e2:signF leftC s1' with
    | none =>
     have GT2:=hid (fun u (hat:At u rb v s s1') => (show Calls _ _ _ _ (Said (plc s s1') none u rb v s) by have:=GT.out u s1' hat;rwa [e2] at this))
     have hi:itemP q = none:=by unfold itemP;rw [e1];simp [e2]
     rw [hi]
     clear e1 e2 GT hi h h45
     go_enter Tryz.func182,Tryz.ntmps182
     go_wp2_with (first
      | (go_at_call 181;refine (GT2.out _ hat2.out).mono ?_;intro e w3 hw3;obtain ⟨he3,hk3⟩:=hw3.no;subst he3)
      | (go_at_call 181;refine (GT1.out _ h1.out).mono ?_;intro e w1 hw1;obtain ⟨he1,hat1,hk1⟩:=hw1.yes;subst he1;have hat1:=hid hat1)
      | (go_at_call 151;refine (GK.out _ hat1.out).mono ?_;rintro e w2 ⟨rfl,hat2,hk2⟩;have hat2:=hid hat2))
     exact ⟨rfl,⟨_,rfl⟩,((k0.out.trans hk1).trans hk2).trans hk3⟩
    | some y =>
     obtain ⟨b,s2⟩:=y
     have hb:=sign_byte e2
     have GT2:=hid (fun u (hat:At u rb v s s1') => (show Calls _ _ _ _ (Said (plc s s1') (some (b,s2)) u rb v s) by have:=GT.out u s1' hat;rwa [e2] at this))
     by_cases hlt:b < a
     · have hi:itemP q = none:=by unfold itemP;rw [e1];simp [e2,hlt]
       have hltz:(b:Int) < (a:Int):=by omega
       rw [hi]
       clear e1 e2 GT hi h h45
       go_enter Tryz.func182,Tryz.ntmps182
       go_wp2_with (first
        | (go_at_call 181;refine (GT2.out _ hat2.out).mono ?_;intro e w3 hw3;obtain ⟨he3,hat3,hk3⟩:=hw3.yes;subst he3)
        | (go_at_call 181;refine (GT1.out _ h1.out).mono ?_;intro e w1 hw1;obtain ⟨he1,hat1,hk1⟩:=hw1.yes;subst he1;have hat1:=hid hat1)
        | (go_at_call 151;refine (GK.out _ hat1.out).mono ?_;rintro e w2 ⟨rfl,hat2,hk2⟩;have hat2:=hid hat2))
       exact ⟨rfl,⟨_,rfl⟩,((k0.out.trans hk1).trans hk2).trans hk3⟩
     · have hi:itemP q = some (a,b,s2):=by unfold itemP;rw [e1];simp [e2,hlt]
       have hltz:¬ (b:Int) < (a:Int):=by omega
       have GS:=hid (fun u => spanC a b u ha hb)
       rw [hi]
       show Calls _ _ _ _ fun e w' => (e = .returned (valB (spanB a b)) ∧ At w' rb v s s2) ∧ Kept (oneBlk rb) w w'
       clear e1 e2 GT hi h h45
       generalize spanB a b = R at GS ⊢
       obtain ⟨r0,r1,r2,r3⟩:=R
       go_enter Tryz.func182,Tryz.ntmps182
       go_wp2_with (first
        | (go_at_call 181;refine (GT2.out _ hat2.out).mono ?_;intro e w3 hw3;obtain ⟨he3,hat3,hk3⟩:=hw3.yes;subst he3;have hat3:=hid hat3;have b3:=hid (((b0.out.kept hk1 hne).kept hk2 hne).kept hk3 hne))
        | (go_at_call 181;refine (GT1.out _ h1.out).mono ?_;intro e w1 hw1;obtain ⟨he1,hat1,hk1⟩:=hw1.yes;subst he1;have hat1:=hid hat1)
        | (go_at_call 151;refine (GK.out _ hat1.out).mono ?_;rintro e w2 ⟨rfl,hat2,hk2⟩;have hat2:=hid hat2)
        | (go_at_call 189;refine (GS.out _).mono ?_;rintro e w4 ⟨rfl,hb4⟩;have b4:=hid (b3.out.keep hb4);have hat4:=hid (hat3.out.keep hb4);obtain ⟨z0,z1,z2,z3,z4,z5,z6,z7⟩:=Blk.cells (sa:=0) (sb:=0) (sc:=0) (sd:=0) b4.out))
       refine bodyPost_ret (v:=.agg #[.int .u64 r0,.int .u64 r1,.int .u64 r2,.int .u64 r3]) (by simp [results,Tryz.results182,go_sem,z0,z1,z2,z3]) rfl ⟨⟨rfl,?_⟩,?_⟩
       · exact hat4.out.put4 ⟨r0,r1,r2,r3⟩ (by omega)
       · exact kept_put4 ((((k0.out.trans hk1).trans hk2).trans hk3).trans (Kept.of_below hb4)) ⟨r0,r1,r2,r3⟩ (fun h => by omega)
  · have hno:(s1.head? == some 45) = false:=by simpa using h45
    have GK:=hid (fun u (hat:At u rb v s s1) => takeNo hat hs 45 hno)
    rw [show ((45:UInt8).toNat:Int) = 45 from rfl] at GK
    have hi:itemP q = some (a,a,s1):=by unfold itemP;rw [e1];simp [h45]
    have GS:=hid (fun u => spanC a a u ha ha)
    rw [hi]
    show Calls _ _ _ _ fun e w' => (e = .returned (valB (spanB a a)) ∧ At w' rb v s s1) ∧ Kept (oneBlk rb) w w'
    clear e1 GT hi h h45 hno
    generalize spanB a a = R at GS ⊢
    obtain ⟨r0,r1,r2,r3⟩:=R
    go_enter Tryz.func182,Tryz.ntmps182
    go_wp2_with (first
     | (go_at_call 181;refine (GT1.out _ h1.out).mono ?_;intro e w1 hw1;obtain ⟨he1,hat1,hk1⟩:=hw1.yes;subst he1;have hat1:=hid hat1;have b1:=hid (b0.out.kept hk1 hne))
     | (go_at_call 151;refine (GK.out _ hat1.out).mono ?_;rintro e w2 ⟨rfl,hb2⟩)
     | (go_at_call 189;refine (GS.out _).mono ?_;rintro e w4 ⟨rfl,hb4⟩;have b4:=hid ((b1.out.keep hb2).keep hb4);have hat4:=hid ((hat1.out.keep hb2).keep hb4);obtain ⟨z0,z1,z2,z3,z4,z5,z6,z7⟩:=Blk.cells (sa:=0) (sb:=0) (sc:=0) (sd:=0) b4.out))
    refine bodyPost_ret (v:=.agg #[.int .u64 r0,.int .u64 r1,.int .u64 r2,.int .u64 r3]) (by simp [results,Tryz.results182,go_sem,z0,z1,z2,z3]) rfl ⟨⟨rfl,?_⟩,?_⟩
    · exact hat4.out.put4 ⟨r0,r1,r2,r3⟩ (by omega)
    · exact kept_put4 (((k0.out.trans hk1).trans (Kept.of_below hb2)).trans (Kept.of_below hb4)) ⟨r0,r1,r2,r3⟩ (fun h => by omega)
end Go.Proofs.YtbpnioehmohbcaaGreat
namespace Go.Proofs.YtbpnioehmohbcaaGreat
open Go.RowKit
end Go.Proofs.YtbpnioehmohbcaaGreat
namespace Go.Proofs.YtbpnioehmohbcaaGreat
open Go.RowKit
def plcN (w:World) (rb:Nat) (n:Nat):Nat:=match w.cell? ⟨rb,1,none⟩ with
 | some (.int _ z) => n - z.toNat
 | _ => 0
theorem At.left {w:World} {rb:Nat} {v:Value} {s q:Txt} (h:At w rb v s q):plcN w rb s.length = q.length:=by
 unfold plcN
 rw [h.place]
 obtain ⟨pre,hp,_⟩:=h
 unfold plc
 rw [hp]
 simp
theorem or_none {S:W4} (h:Fit4 S):orB noneB S = S:=(mkB_eq h fun x _ => by rw [noneB_has];simp).symm
theorem span_fit (a b:Nat):Fit4 (spanB a b):=mkB_fit _
theorem or_fit (S T:W4):Fit4 (orB S T):=mkB_fit _
def SaidS (res:Option (W4 × Txt)) (w:World) (rb:Nat) (v:Value) (s:Txt):Ending → World → Prop:=fun e w' =>
 (match res with
  | some (S,q) => e = .returned (valB S) ∧ At w' rb v s q
  | none => ∃ n,e = faultE n) ∧ Kept (oneBlk rb) w w'
theorem SaidS.mk_no {res:Option (W4 × Txt)} {w w':World} {rb:Nat} {v:Value} {s:Txt} (h:res = none) (n:Int) (hk:Kept (oneBlk rb) w w'):SaidS res w rb v s (faultE n) w':=by subst h;exact ⟨⟨n,rfl⟩,hk⟩
theorem SaidS.mk_yes {res:Option (W4 × Txt)} {w w':World} {rb:Nat} {v:Value} {s q:Txt} {S:W4} (h:res = some (S,q)) (hat:At w' rb v s q) (hk:Kept (oneBlk rb) w w'):SaidS res w rb v s (.returned (valB S)) w':=by subst h;exact ⟨⟨rfl,hat⟩,hk⟩
def finC (oth:Bool) (R:Option (W4 × Txt)):Option (W4 × Txt):=match R with
 | none => none
 | some (S,r) => if (if oth then notB S else S) = noneB then none else some (if oth then notB S else S,r)
theorem classF_fin (n:Nat) (q:Txt):classF n q = finC (q.head? == some 94) (itemsF n true noneB (if q.head? == some 94 then q.tail else q)):=by
 unfold classF finC
 cases q.head? == some 94
 · simp only [Bool.false_eq_true,if_false]
   cases itemsF n true noneB q with
   | none => rfl
   | some x => rfl
 · simp only [if_true]
   cases itemsF n true noneB q.tail with
   | none => rfl
   | some x => rfl
set_option maxRecDepth 20000 in
theorem eqNone (a b c d:Nat) {r:Bool} (h:decide ((⟨a,b,c,d⟩:W4) = noneB) = r) (w:World):(Op.equalIn 10000 130 (.agg #[.int .u64 (a:Int),.int .u64 (b:Int),.int .u64 (c:Int),.int .u64 (d:Int)]) (.agg #[.int .u64 0,.int .u64 0,.int .u64 0,.int .u64 0])).run Tryz.prog w = .ok r w:=by
 rw [← h]
 exact equal4 9998 a b c d 0 0 0 0 w
set_option maxRecDepth 20000 in
set_option maxHeartbeats 4000000 in
theorem classC {w:World} {rb:Nat} {v:Value} {s q:Txt} (h:At w rb v s q) (hs:s.length ≤ 200) (p:Int) :
 Calls Tryz.prog 178 #[.pointer (some ⟨rb,0,none⟩),.int .i64 p] w (SaidS (classF (q.length + 1) q) w rb v s):=by
 have hrb:rb < w.heap.size:=by obtain ⟨_,_,hb⟩:=h;exact blk_lt hb
 rw [classF_fin]
 have GI:=hid (fun u q (hat:At u rb v s q) => itemC hat hs)
 have h1:=hid (h.keep (al' w (.cells #[.int .u64 0,.int .u64 0,.int .u64 0,.int .u64 0] 130)))
 have b0:Hid (Blk (w.alloc (.cells #[.int .u64 0,.int .u64 0,.int .u64 0,.int .u64 0] 130)) w.heap.size noneB):=hid (heap_new w _)
 have k0:Hid (Kept (oneBlk rb) w (w.alloc (.cells #[.int .u64 0,.int .u64 0,.int .u64 0,.int .u64 0] 130))):=hid (Kept.of_below (al' w _))
 have hne:¬ oneBlk rb w.heap.size:=fun e => by have:w.heap.size = rb:=e;omega
 have GT:Hid (Calls Tryz.prog 151 #[.pointer (some ⟨rb,0,none⟩),.int .u8 94] (w.alloc (.cells #[.int .u64 0,.int .u64 0,.int .u64 0,.int .u64 0] 130)) fun e w' => e = .returned (.bool (q.head? == some 94)) ∧ At w' rb v s (if q.head? == some 94 then q.tail else q) ∧ Kept (oneBlk rb) (w.alloc (.cells #[.int .u64 0,.int .u64 0,.int .u64 0,.int .u64 0] 130)) w'):=hid (by
  by_cases h94:q.head? = some 94
  · obtain ⟨q',rfl⟩:∃ q',q = 94 :: q':=by
     cases q with
     | nil => cases h94
     | cons c t => injection h94 with h;subst h;exact ⟨t,rfl⟩
    exact (takeYes h1.out hs).mono fun e w' hh => hh
  · have hno:(q.head? == some 94) = false:=by simpa using h94
    rw [hno]
    exact (takeNo h1.out hs 94 hno).mono fun e w' hh => ⟨hh.1,h1.out.keep hh.2,Kept.of_below hh.2⟩)
 have hlen:(if q.head? == some 94 then q.tail else q).length + 1 ≤ q.length + 1:=by split <;> simp
 generalize (q.head? == some 94) = oth at GT hlen ⊢
 generalize hn0:q.length + 1 = n0 at hlen ⊢
 generalize (if oth = true then q.tail else q) = q1 at GT hlen ⊢
 cases n0 with
 | zero => omega
 | succ n0 =>
 rw [items_item]
 simp only [Bool.not_true,Bool.false_and,Bool.false_eq_true,if_false]
 cases e1:itemP q1 with
 | none =>
  have GI1:=hid (fun u (hat:At u rb v s q1) => (show Calls _ _ _ _ (SaidI none u rb v s) by have:=GI.out u q1 hat;rwa [e1] at this))
  show Calls _ _ _ _ (SaidS none w rb v s)
  clear e1 GI h hn0
  go_enter Tryz.func178,Tryz.ntmps178
  go_wp2_with (first
   | (go_at_call 151;refine GT.out.mono ?_;rintro e w1 ⟨rfl,hat1,hk1⟩;have hat1:=hid hat1)
   | (go_at_call 182;refine (GI1.out _ hat1.out).mono ?_;rintro e w2 ⟨⟨n,he⟩,hk2⟩;subst he))
  exact ⟨rfl,⟨_,rfl⟩,(k0.out.trans hk1).trans hk2⟩
 | some x =>
  obtain ⟨a,b,r1⟩:=x
  have hr1:=itemP_lt e1
  have GI1:=hid (fun u (hat:At u rb v s q1) => (show Calls _ _ _ _ (SaidI (some (a,b,r1)) u rb v s) by have:=GI.out u q1 hat;rwa [e1] at this))
  show Calls _ _ _ _ (SaidS (finC oth (itemsF n0 false (orB noneB (spanB a b)) r1)) w rb v s)
  rw [or_none (span_fit a b)]
  obtain ⟨R,hR⟩:∃ R,Hid (itemsF n0 false (spanB a b) r1 = R):=⟨_,hid rfl⟩
  rw [hR.out]
  have hR1:Hid (itemsF (r1.length + 1) false (spanB a b) r1 = R):=hid ((items_more (Nat.le_refl _) (by omega)).trans hR.out)
  have hS1:=hid (span_fit a b)
  clear e1 h hn0 hR
  have GI2:Hid (∀ u (hat:At u rb v s q1),Calls Tryz.prog 182 #[.pointer (some ⟨rb,0,none⟩)] u fun e w' => (e = .returned (valB (spanB a b)) ∧ At w' rb v s r1) ∧ Kept (oneBlk rb) u w'):=GI1
  clear GI1
  generalize spanB a b = S1 at GI2 hR1 hS1
  obtain ⟨x0,x1,x2,x3⟩:=S1
  have GK1:=hid (fun u q (hat:At u rb v s q) (hq:(q.head? == some 93) = false) => takeNo hat hs 93 hq)
  have GK2:=hid (fun u r (hat:At u rb v s (93 :: r)) => takeYes hat hs)
  rw [show ((93:UInt8).toNat:Int) = 93 from rfl] at GK1 GK2
  go_enter Tryz.func178,Tryz.ntmps178
  go_wp2_with (first
   | (go_at_call 151;refine GT.out.mono ?_;rintro e w1 ⟨rfl,hat1,hk1⟩;have hat1:=hid hat1)
   | (go_at_call 182;refine (GI2.out _ hat1.out).mono ?_;rintro e w2 ⟨⟨he,hat2⟩,hk2⟩;subst he;have hat2:=hid hat2;have hsz2:w.heap.size < w2.heap.size:=Nat.lt_of_lt_of_le (by simp) (Nat.le_trans hk1.size hk2.size)))
  go_loopw [] (fun wr => ∃ S q',Fit4 S ∧ Hid (At wr rb v s q') ∧ Hid (Blk wr w2.heap.size S) ∧ Hid (Blk wr w.heap.size noneB) ∧ Kept (oneBlk rb) w wr ∧ Hid (itemsF (q'.length + 1) false S q' = R)) (fun wr => plcN wr rb s.length)
  case atStart =>
   exact ⟨⟨x0,x1,x2,x3⟩,r1,hS1.out,hid (hat2.out.keep (al' w2 _)),hid (heap_new w2 _),hid ((((b0.out.kept hk1 hne).kept hk2 hne)).keep (al' w2 _)),al_kept ((k0.out.trans hk1).trans hk2) _,hR1⟩
  case round =>
   obtain ⟨S,q',hfS,hat,bS,bN,hkw,hRq⟩:=hrel
   have hne2:¬ oneBlk rb w2.heap.size:=fun e => by have:w2.heap.size = rb:=e;omega
   have hmu:=hat.out.left
   by_cases h93:q'.head? = some 93
   · obtain ⟨r,rfl⟩:∃ r,q' = 93 :: r:=by
      cases q' with
      | nil => cases h93
      | cons c t => injection h93 with h;subst h;exact ⟨t,rfl⟩
     have hRv:R = some (S,r):=by rw [← hRq.out,items_item];rfl
     have GT':=hid (GK2.out wr r hat.out)
     have hRv':=hid hRv
     clear h93 hRv hRq hmu hR1 GI GI2 GK1 GK2 GT hat
     cases oth with
     | false =>
      have hfin:Hid (finC false R = if S = noneB then none else some (S,r)):=hid (by rw [hRv'.out];rfl)
      obtain ⟨a0,a1,a2,a3⟩:=S
      by_cases hz:(⟨a0,a1,a2,a3⟩:W4) = noneB
      · have hfin:=hid (hfin.out.trans (if_pos hz))
        have hq:=eqNone a0 a1 a2 a3 (decide_eq_true hz)
        clear hz
        go_wp2_with (first
         | (go_at_call 151;refine GT'.out.mono ?_;rintro e w3 ⟨rfl,hat3,hk3⟩;have b3:=hid (bS.out.kept hk3 hne2);obtain ⟨s0,s1,s2,s3,s4,s5,s6,s7⟩:=b3.out.cells))
        exact ⟨rfl,SaidS.mk_no hfin.out _ (hkw.trans hk3)⟩
      · have hfin:=hid (hfin.out.trans (if_neg hz))
        have hq:=eqNone a0 a1 a2 a3 (decide_eq_false hz)
        clear hz
        go_wp2_with (first
         | (go_at_call 151;refine GT'.out.mono ?_;rintro e w3 ⟨rfl,hat3,hk3⟩;have hat3:=hid hat3;have b3:=hid (bS.out.kept hk3 hne2);have c3:=hid (bN.out.kept hk3 hne);obtain ⟨s0,s1,s2,s3,s4,s5,s6,s7⟩:=b3.out.cells;obtain ⟨z0,z1,z2,z3,z4,z5,z6,z7⟩:=Blk.cells (sa:=0) (sb:=0) (sc:=0) (sd:=0) c3.out))
        refine bodyPost_ret (v:=.agg #[.int .u64 a0,.int .u64 a1,.int .u64 a2,.int .u64 a3]) (by simp [results,Tryz.results178,go_sem,z0,z1,z2,z3]) rfl (SaidS.mk_yes (S:=⟨a0,a1,a2,a3⟩) hfin.out (hat3.out.put4 ⟨a0,a1,a2,a3⟩ (by omega)) (kept_put4 (hkw.trans hk3) ⟨a0,a1,a2,a3⟩ (fun h => by omega)))
     | true =>
      have hfin:Hid (finC true R = if notB S = noneB then none else some (notB S,r)):=hid (by rw [hRv'.out];rfl)
      obtain ⟨a0,a1,a2,a3⟩:=S
      have GN:=hid (fun u => notC a0 a1 a2 a3 u hfS)
      generalize notB ⟨a0,a1,a2,a3⟩ = T at GN hfin
      obtain ⟨t0,t1,t2,t3⟩:=T
      by_cases hz:(⟨t0,t1,t2,t3⟩:W4) = noneB
      · have hfin:=hid (hfin.out.trans (if_pos hz))
        have hq:=eqNone t0 t1 t2 t3 (decide_eq_true hz)
        clear hz
        go_wp2_with (first
         | (go_at_call 151;refine GT'.out.mono ?_;rintro e w3 ⟨rfl,hat3,hk3⟩;have b3:=hid (bS.out.kept hk3 hne2);obtain ⟨s0,s1,s2,s3,s4,s5,s6,s7⟩:=b3.out.cells)
         | (go_at_call 184;refine (GN.out _).mono ?_;rintro e w4 ⟨rfl,hb4⟩;have b4:=hid (b3.out.keep hb4);obtain ⟨m0,m1,m2,m3,m4,m5,m6,m7⟩:=b4.out.cells))
        exact ⟨rfl,SaidS.mk_no hfin.out _ (kept_put4 (b:=w2.heap.size) ((hkw.trans hk3).trans (Kept.of_below hb4)) ⟨t0,t1,t2,t3⟩ (fun h => by omega))⟩
      · have hfin:=hid (hfin.out.trans (if_neg hz))
        have hq:=eqNone t0 t1 t2 t3 (decide_eq_false hz)
        clear hz
        have hnn:¬ w.heap.size = w2.heap.size:=by omega
        go_wp2_with (first
         | (go_at_call 151;refine GT'.out.mono ?_;rintro e w3 ⟨rfl,hat3,hk3⟩;have hat3:=hid hat3;have b3:=hid (bS.out.kept hk3 hne2);have c3:=hid (bN.out.kept hk3 hne);obtain ⟨s0,s1,s2,s3,s4,s5,s6,s7⟩:=b3.out.cells)
         | (go_at_call 184;refine (GN.out _).mono ?_;rintro e w4 ⟨rfl,hb4⟩;have hat4:=hid (hat3.out.keep hb4);have b4:=hid (b3.out.keep hb4);have c4:=hid (c3.out.keep hb4);obtain ⟨m0,m1,m2,m3,m4,m5,m6,m7⟩:=b4.out.cells;obtain ⟨z0,z1,z2,z3,z4,z5,z6,z7⟩:=Blk.cells (sa:=0) (sb:=0) (sc:=0) (sd:=0) c4.out))
        refine bodyPost_ret (v:=.agg #[.int .u64 t0,.int .u64 t1,.int .u64 t2,.int .u64 t3]) (by simp [results,Tryz.results178,go_sem,z0,z1,z2,z3]) rfl (SaidS.mk_yes (S:=⟨t0,t1,t2,t3⟩) hfin.out ((hat4.out.put4 ⟨t0,t1,t2,t3⟩ (by omega)).put4 ⟨t0,t1,t2,t3⟩ (by omega)) (kept_put4 (kept_put4 ((hkw.trans hk3).trans (Kept.of_below hb4)) ⟨t0,t1,t2,t3⟩ (fun h => by omega)) ⟨t0,t1,t2,t3⟩ (fun h => by omega)))
   · have hno:(q'.head? == some 93) = false:=by simpa using h93
     have GT':=hid (GK1.out wr q' hat.out hno)
     have hit:=items_item q'.length false S q'
     rw [hRq.out,hno] at hit
     simp only [Bool.and_false,Bool.false_eq_true,if_false] at hit
     cases e2:itemP q' with
     | none =>
      rw [e2] at hit
      have GI':=hid (fun u (hat:At u rb v s q') => (show Calls _ _ _ _ (SaidI none u rb v s) by have:=GI.out u q' hat;rwa [e2] at this))
      have hfin:Hid (finC oth R = none):=hid (by rw [hit];rfl)
      clear h93 hRq hmu hR1 GI GI2 GK1 GK2 GT hit e2 hno
      obtain ⟨a0,a1,a2,a3⟩:=S
      go_wp2_with (first
       | (go_at_call 151;refine GT'.out.mono ?_;rintro e w3 ⟨rfl,hb3⟩;have hd3:Below w3.heap.size w3 w3.drew:=(Below.refl _ _).drew;have hat3:=hid ((hat.out.keep hb3).keep hd3);have b3:=hid ((bS.out.keep hb3).keep hd3);obtain ⟨s0,s1,s2,s3,s4,s5,s6,s7⟩:=b3.out.cells))
      have HI:Hid (∀ (Q:Exit → Act → World → Prop) (a:Act) (R':Ending → World → Prop),(∀ n w4,Kept (oneBlk rb) w3.drew w4 → R' (faultE n) w4) → Calls Tryz.prog 182 #[.pointer (some ⟨rb,0,none⟩)] w3.drew R'):=hid (fun Q a R' hR' => (GI'.out _ hat3.out).mono (by rintro e w4 ⟨⟨n,he⟩,hk4⟩;subst he;exact hR' n w4 hk4))
      refine wp_region_any (by kernel_rfl) ?_
      change wpAny _ _ _ _ _ _ _ (World.drew _)
      refine wpAny_take (i:=1) (v:=.pointer (some ⟨rb,0,none⟩)) rfl (by kernel_rfl) (by kernel_rfl) (by kernel_rfl) (fun _ _ _ h => h) (Or.inl ⟨by rfl,fun w => by go_simp⟩) ?_
      refine wpAny_ready (rs:=[0,2]) (by kernel_rfl) (by simp) ?_
      refine AllReady.cons rfl (fun K hK => ?_) (AllReady.cons rfl (fun K hK => ?_) AllReady.nil)
      · go_simp
        refine hK _ _ ?_
        clear hK K
        refine wpAny_ready (rs:=[2]) (by kernel_rfl) (by simp) ?_
        refine AllReady.cons rfl (fun K hK => ?_) AllReady.nil
        go_simp
        refine HI.out (fun _ _ _ => True) ⟨#[],[]⟩ _ ?_
        intro n w4 hk4
        exact ⟨rfl,SaidS.mk_no hfin.out _ (((hkw.trans (Kept.of_below hb3)).trans (Kept.of_below hd3)).trans hk4)⟩
      · go_simp
        refine HI.out (fun _ _ _ => True) ⟨#[],[]⟩ _ ?_
        intro n w4 hk4
        exact ⟨rfl,SaidS.mk_no hfin.out _ (((hkw.trans (Kept.of_below hb3)).trans (Kept.of_below hd3)).trans hk4)⟩
     | some y =>
      obtain ⟨a',b',r2⟩:=y
      rw [e2] at hit
      have hlt2:=itemP_lt e2
      have hit2:R = itemsF q'.length false (orB S (spanB a' b')) r2:=hit
      have hR2:Hid (itemsF (r2.length + 1) false (orB S (spanB a' b')) r2 = R):=hid ((items_more (Nat.le_refl _) (by omega)).trans hit2.symm)
      have GI':Hid (∀ u (hat:At u rb v s q'),Calls Tryz.prog 182 #[.pointer (some ⟨rb,0,none⟩)] u fun e w' => (e = .returned (valB (spanB a' b')) ∧ At w' rb v s r2) ∧ Kept (oneBlk rb) u w'):=hid (fun u hat => by have:=GI.out u q' hat;rw [e2] at this;exact this)
      obtain ⟨a0,a1,a2,a3⟩:=S
      have hfp:=span_fit a' b'
      have hf2:=hid (or_fit ⟨a0,a1,a2,a3⟩ (spanB a' b'))
      generalize spanB a' b' = P at GI' hR2 hfp hf2
      obtain ⟨p0,p1,p2,p3⟩:=P
      have GO:=hid (fun u => orC a0 a1 a2 a3 p0 p1 p2 p3 u hfS hfp)
      generalize orB ⟨a0,a1,a2,a3⟩ ⟨p0,p1,p2,p3⟩ = T at GO hR2 hf2
      obtain ⟨t0,t1,t2,t3⟩:=T
      have hmu:=hid hmu
      have hlt2:=hid hlt2
      clear h93 hRq hR1 GI GI2 GK1 GK2 GT hit hit2 e2 hno
      go_wp2_with (first
       | (go_at_call 151;refine GT'.out.mono ?_;rintro e w3 ⟨rfl,hb3⟩;have hd3:Below w3.heap.size w3 w3.drew:=(Below.refl _ _).drew;have hat3:=hid ((hat.out.keep hb3).keep hd3);have b3:=hid ((bS.out.keep hb3).keep hd3);have c3:=hid ((bN.out.keep hb3).keep hd3);obtain ⟨s0,s1,s2,s3,s4,s5,s6,s7⟩:=b3.out.cells))
      go_region_with (first
       | (go_at_call 182;refine (GI'.out _ hat3.out).mono ?_;rintro e w4 ⟨⟨he,hat4⟩,hk4⟩;subst he;have hat4:=hid hat4;have b4:=hid (b3.out.kept hk4 hne2);have c4:=hid (c3.out.kept hk4 hne);obtain ⟨m0,m1,m2,m3,m4,m5,m6,m7⟩:=b4.out.cells)
       | (go_at_call 183;refine (GO.out _).mono ?_;rintro e w5 ⟨rfl,hb5⟩;have hat5:=hid (hat4.out.keep hb5);have b5:=hid (b4.out.keep hb5);have c5:=hid (c4.out.keep hb5);obtain ⟨n0',n1,n2,n3,n4,n5,n6,n7⟩:=b5.out.cells)
       | fail)
      all_goals
       go_wp2
       have hat6:=hat5.out.put4 (b:=w2.heap.size) ⟨t0,t1,t2,t3⟩ (by omega)
       have hm6:=hat6.left
       refine ⟨⟨⟨t0,t1,t2,t3⟩,r2,hf2.out,hid hat6,hid (b5.out.put (S':=⟨t0,t1,t2,t3⟩)),hid (c5.out.other (S':=⟨t0,t1,t2,t3⟩) (by omega)),kept_put4 ((((hkw.trans (Kept.of_below hb3)).trans (Kept.of_below hd3)).trans hk4).trans (Kept.of_below hb5)) ⟨t0,t1,t2,t3⟩ (fun h => by omega),hR2⟩,?_⟩
       have hl2:=hlt2.out
       have hm:=hmu.out
       show plcN _ rb s.length < plcN wr rb s.length
       rw [hm]
       exact Nat.lt_of_le_of_lt (Nat.le_of_eq hm6) hl2
set_option maxRecDepth 20000 in
set_option maxHeartbeats 1000000 in
theorem pointC (w:World):Calls Tryz.prog 179 #[] w fun e w' => e = .returned (valB (notB (spanB 10 10))) ∧ Below w.heap.size w w':=by
 have G1:=hid (fun u => oneC 10 u (by omega))
 have hf:=span_fit 10 10
 generalize spanB 10 10 = P at G1 hf ⊢
 obtain ⟨p0,p1,p2,p3⟩:=P
 have G2:=hid (fun u => notC p0 p1 p2 p3 u hf)
 generalize notB ⟨p0,p1,p2,p3⟩ = T at G2 ⊢
 obtain ⟨t0,t1,t2,t3⟩:=T
 have b0:Hid (Blk (w.alloc (.cells #[.int .u64 0,.int .u64 0,.int .u64 0,.int .u64 0] 130)) w.heap.size noneB):=hid (heap_new w _)
 go_enter Tryz.func179,Tryz.ntmps179
 go_wp2_with (first
  | (go_at_call 180;refine (G1.out _).mono ?_;rintro e w1 ⟨rfl,hb1⟩)
  | (go_at_call 184;refine (G2.out _).mono ?_;rintro e w2 ⟨rfl,hb2⟩;have b2:=hid ((b0.out.keep hb1).keep hb2);obtain ⟨z0,z1,z2,z3,z4,z5,z6,z7⟩:=Blk.cells (sa:=0) (sb:=0) (sc:=0) (sd:=0) b2.out))
 refine bodyPost_ret (v:=.agg #[.int .u64 t0,.int .u64 t1,.int .u64 t2,.int .u64 t3]) (by simp [results,Tryz.results179,go_sem,z0,z1,z2,z3]) rfl ⟨rfl,bl_put (bl_step (bl_step (al' w _) hb1) hb2) ⟨t0,t1,t2,t3⟩ (Nat.le_refl _)⟩
end Go.Proofs.YtbpnioehmohbcaaGreat
