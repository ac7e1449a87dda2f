/- What the five laws of layer 17 share, part 6: no statement of its own. -/
import Derived.Test.YtjgedijclkoemaaGreatDoorJ5
namespace Go.Proofs.YtjgedijclkoemaaGreatDoor
open Go.RowKit
def addN (S:W4) (p:Nat→Bool):Nat→W4
 | 0=>S
 | k+1=>if p k then b5k (addN S p k) k else addN S p k
theorem b7E {S:W4} {p:Nat→Bool} {k:Nat} (h:p k=true):addN S p (k+1)=b5k (addN S p k) k:=by rw [addN,if_pos h]
theorem a2G {S:W4} (h:Fit4 S) (p:Nat→Bool):∀ k,Fit4 (addN S p k)
 | 0=>h
 | k+1=>by
  unfold addN;cases p k with
  | true=>simpa using a3H (a2G h p k) k
  | false=>simpa using a2G h p k
theorem a6Q (S:W4) (p:Nat→Bool):∀ k,k≤256→∀ x,x<256→a2I (addN S p k) x=(a2I S x || (decide (x<k) && p x))
 | 0,_,x,_=>by rw [addN];simp
 | k+1,hk,x,hx=>by
  have ih:=a6Q S p k (by omega) x hx;unfold addN;by_cases e:x=k
  · subst e
    cases hp:p x with
    | true=>simp [a1F _ x x hx hx]
    | false=>simp [ih]
  · have h1:decide (x<k+1)=decide (x<k):=by rw [decide_eq_decide];omega
    rw [h1,← ih];cases p k with
    | true=>simp [a1F _ k x (by omega) hx,e]
    | false=>simp
theorem b5z (f k:Nat) (h:k≤f) (hf:f≤256):addN n_ (fun x=>decide (f≤x)) k=n_:=
 a8A (a2G a0j _ _) a0j fun x hx=>by
  rw [a6Q _ _ k (by omega) x hx,a0t]
  have:(decide (x<k) && decide (f≤x))=false:=by
   by_cases h1:x<k
   · have h2:¬ f≤x:=by omega
     simp [h2]
   · simp [h1]
  rw [this];rfl
theorem b5A (f t k:Nat) (ht:t<256) (h:k=t+1∨(t<f∧k=f)) (hf:f<256):addN n_ (fun x=>decide (f≤x)) k=H_ f t:=by
 refine a7E (a2G a0j _ _) fun x hx=>?_
 rw [a6Q _ _ k (by omega) x hx,a0t,Bool.false_or,Bool.eq_iff_iff];simp only [Bool.and_eq_true,decide_eq_true_eq];omega
theorem c3A (S:W4) (i v x:Nat) (hi:i<4) (hx:x<256):a2I (S.set i v) x=if x / 64=i then v.testBit (x % 64) else a2I S x:=by
 unfold a2I;by_cases e:x / 64=i
 · rw [if_pos e,e,W4.set_same]
 · rw [if_neg e,W4.set_other _ _ _ _ hi (by omega) e]
theorem b9d {Q:W4} (hQ:Fit4 Q) (k:Nat) (hk:k<256):b5k Q k=Q.set (k / 64) (Q.w (k / 64) ||| 2 ^ (k % 64)):=by
 have h2:2 ^ (k % 64)<18446744073709551616:=Nat.pow_lt_pow_right (a:=2) (by omega) (by omega:k % 64<64);refine a8A (a3H hQ k) (hQ.set _ _ (Nat.or_lt_two_pow (n:=64) (hQ.w _) h2)) fun x hx=>?_
 rw [a1F Q k x hk hx,c3A _ _ _ _ (by omega) hx,Nat.testBit_or,Nat.testBit_two_pow];by_cases e:x / 64=k / 64
 · rw [if_pos e,← e]
   unfold a2I;congr 1
   rw [decide_eq_decide];omega
 · rw [if_neg e]
   have:¬ x=k:=fun h=>e (by rw [h])
   simp [this]
set_option maxRecDepth 20000 in
set_option maxHeartbeats 4000000 in
theorem c1g (f t:Nat) (w:World) (hf:f<256) (ht:t<256) :
 Calls Tryz.prog 262 #[.int .u8 (f:Int),.int .u8 (t:Int)] w fun e w'=>e=.returned (a5E (H_ f t))∧Below w.heap.size w w':=by
 obtain ⟨p,hp⟩:∃ p:Nat→Bool,Hid (p=fun x=>decide (f≤x)):=⟨_,hid rfl⟩;obtain ⟨R,hR⟩:∃ R,Hid (H_ f t=R):=⟨_,hid rfl⟩;have hlast:Hid (∀ k,(k=t+1∨(t<f∧k=f))→addN n_ p k=R):=hid (fun k hk=>by rw [hp.out,← hR.out];exact b5A f t k ht hk hf);have hfirst:Hid (addN n_ p f=n_):=hid (by rw [hp.out];exact b5z f f (Nat.le_refl _) (by omega));have hyes:Hid (∀ k,f≤k→p k=true):=hid (fun k hk=>by rw [hp.out];exact decide_eq_true hk);rw [show H_ f t=R from hR.out];have hfit:=hid (a2G a0j p);obtain ⟨ra,rb,rc,rd⟩:=R;clear hR hp;go_enter Tryz.func262,Tryz.ntmps262
 go_wp2;go_loopw [6] (fun i wr=>∃ k:Nat,f≤k∧(k≤t+1∨k=f)∧i=.int .i64 k∧Hid (Blk wr w.heap.size n_)∧Hid (Blk wr (w.heap.size+1) (addN n_ p k))∧Below w.heap.size w wr) (fun i _=>256 - (intOf i).toNat)
 case atStart=>exact ⟨f,Nat.le_refl _,Or.inr rfl,by go_num,hid (a0P w _ _).1,by rw [hfirst.out];exact hid (a0P w _ _).2,a_ (al' w _) (al' _ _)⟩
 case round =>
  obtain ⟨k,hk,hk2,rfl,bR0,bO0,hbl⟩:=hrel;have htw:IntKind.i64.wrap (t:Int)=(t:Int):=by rw [IntKind.wrap_i64];omega
  by_cases hlt:k≤t
  · have hltz:(k:Int)≤(t:Int):=by omega
    have hQ:=hid (hfit.out k);have hy:=@b7E n_ p k (hyes.out k hk);generalize addN n_ p k=Q at hQ hy bO0;rw [b9d hQ.out k (by omega)] at hy;have hk8:IntKind.u8.wrap (k:Int)=(k:Int):=by rw [IntKind.wrap_u8];omega
    have hqz:(k:Int) / 64=((k / 64:Nat):Int):=by omega
    have hql:k / 64=0∨k / 64=1∨k / 64=2∨k / 64=3:=by omega
    have GB:=hid (fun u=>c4D k u (by omega));have hm:2 ^ (k % 64)<18446744073709551616:=Nat.pow_lt_pow_right (a:=2) (by omega) (by omega:k % 64<64);generalize 2 ^ (k % 64)=m at hy GB hm;generalize k / 64=q at hy hqz hql;have hbd:Below wr.heap.size wr wr.drew:=(Below.refl _ _).drew;have bR1:=hid (bR0.out.keep hbd);have bO1:=hid (bO0.out.keep hbd);have hbl1:=a_ hbl hbd;obtain ⟨a,b,c,d⟩:=Q;obtain ⟨o0,o1,o2,o3,o4,o5,o6,o7⟩:=bO1.out.cells;clear hfit hyes hlast;rcases hql with rfl | rfl | rfl | rfl
    · have hor:=u64_or_nat a m hQ.out.a hm
      have hy':Hid (addN n_ p (k+1)=⟨a ||| m,b,c,d⟩):=hid hy;generalize a ||| m=n at hor hy'
      clear hy hm;have bO2:Hid (Blk (wr.drew.setCell ⟨w.heap.size+1,0,none⟩ (.int .u64 (n:Int))) (w.heap.size+1) ⟨n,b,c,d⟩):=hid (heap_setCell bO1.out);have bR2:Hid (Blk (wr.drew.setCell ⟨w.heap.size+1,0,none⟩ (.int .u64 (n:Int))) w.heap.size n_):=hid ((Below.heap_setCell _ _ _ _ (by simp)).trans bR1.out);go_wp2_with fail
      go_region_with (first
       | (go_at_call 258;refine (GB.out _).mono ?_;rintro e u1 ⟨rfl,hu⟩;subst u1)
       | fail)
      all_goals
       go_wp2;exact ⟨⟨k+1,by omega,by omega,by go_num,bR2,by rw [hy'.out];exact bO2,x_ hbl1 _ _ _ (by omega)⟩,by simp [intOf];omega⟩
    · have hor:=u64_or_nat b m hQ.out.b hm
      have hy':Hid (addN n_ p (k+1)=⟨a,b ||| m,c,d⟩):=hid hy;generalize b ||| m=n at hor hy'
      clear hy hm;have bO2:Hid (Blk (wr.drew.setCell ⟨w.heap.size+1,1,none⟩ (.int .u64 (n:Int))) (w.heap.size+1) ⟨a,n,c,d⟩):=hid (heap_setCell bO1.out);have bR2:Hid (Blk (wr.drew.setCell ⟨w.heap.size+1,1,none⟩ (.int .u64 (n:Int))) w.heap.size n_):=hid ((Below.heap_setCell _ _ _ _ (by simp)).trans bR1.out);go_wp2_with fail
      go_region_with (first
       | (go_at_call 258;refine (GB.out _).mono ?_;rintro e u1 ⟨rfl,hu⟩;subst u1)
       | fail)
      all_goals
       go_wp2;exact ⟨⟨k+1,by omega,by omega,by go_num,bR2,by rw [hy'.out];exact bO2,x_ hbl1 _ _ _ (by omega)⟩,by simp [intOf];omega⟩
    · have hor:=u64_or_nat c m hQ.out.c hm
      have hy':Hid (addN n_ p (k+1)=⟨a,b,c ||| m,d⟩):=hid hy;generalize c ||| m=n at hor hy'
      clear hy hm;have bO2:Hid (Blk (wr.drew.setCell ⟨w.heap.size+1,2,none⟩ (.int .u64 (n:Int))) (w.heap.size+1) ⟨a,b,n,d⟩):=hid (heap_setCell bO1.out);have bR2:Hid (Blk (wr.drew.setCell ⟨w.heap.size+1,2,none⟩ (.int .u64 (n:Int))) w.heap.size n_):=hid ((Below.heap_setCell _ _ _ _ (by simp)).trans bR1.out);go_wp2_with fail
      go_region_with (first
       | (go_at_call 258;refine (GB.out _).mono ?_;rintro e u1 ⟨rfl,hu⟩;subst u1)
       | fail)
      all_goals
       go_wp2;exact ⟨⟨k+1,by omega,by omega,by go_num,bR2,by rw [hy'.out];exact bO2,x_ hbl1 _ _ _ (by omega)⟩,by simp [intOf];omega⟩
    · have hor:=u64_or_nat d m hQ.out.d hm
      have hy':Hid (addN n_ p (k+1)=⟨a,b,c,d ||| m⟩):=hid hy;generalize d ||| m=n at hor hy'
      clear hy hm;have bO2:Hid (Blk (wr.drew.setCell ⟨w.heap.size+1,3,none⟩ (.int .u64 (n:Int))) (w.heap.size+1) ⟨a,b,c,n⟩):=hid (heap_setCell bO1.out);have bR2:Hid (Blk (wr.drew.setCell ⟨w.heap.size+1,3,none⟩ (.int .u64 (n:Int))) w.heap.size n_):=hid ((Below.heap_setCell _ _ _ _ (by simp)).trans bR1.out);go_wp2_with fail
      go_region_with (first
       | (go_at_call 258;refine (GB.out _).mono ?_;rintro e u1 ⟨rfl,hu⟩;subst u1)
       | fail)
      all_goals
       go_wp2;exact ⟨⟨k+1,by omega,by omega,by go_num,bR2,by rw [hy'.out];exact bO2,x_ hbl1 _ _ _ (by omega)⟩,by simp [intOf];omega⟩
  · have hltz:¬ (k:Int)≤(t:Int):=by omega
    rw [hlast.out k (by omega)] at bO0;obtain ⟨o0,o1,o2,o3,o4,o5,o6,o7⟩:=bO0.out.cells;obtain ⟨r0,r1,r2,r3,r4,r5,r6,r7⟩:=Blk.cells (sa:=0) (sb:=0) (sc:=0) (sd:=0) bR0.out;clear hfit hyes;go_wp2;refine bodyPost_ret (v:=.agg #[.int .u64 ra,.int .u64 rb,.int .u64 rc,.int .u64 rd]) (by simp [results,Tryz.results262,go_sem,r0,r1,r2,r3]) rfl ⟨rfl,b0I hbl ⟨ra,rb,rc,rd⟩ (by omega)⟩
end Go.Proofs.YtjgedijclkoemaaGreatDoor
