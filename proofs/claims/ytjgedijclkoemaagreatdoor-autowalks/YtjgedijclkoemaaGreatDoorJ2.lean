/- What the five laws of layer 17 share, part 2: no statement of its own. -/
import Derived.Test.YtjgedijclkoemaaGreatDoorJ1
namespace Go.Proofs.YtjgedijclkoemaaGreatDoor
open Go.RowKit
set_option maxRecDepth 20000 in
theorem c0U (op:Int) (w:World):Calls Tryz.prog 149 #[.int .i64 op] w fun e w'=>e=.returned (.int .i64 (P_ op))∧w'=w:=by
 by_cases h1:op=1
 · subst h1;rw [show P_ 1=0 by decide];go_enter Tryz.func149,Tryz.ntmps149;go_wp2;go_ret;exact ⟨rfl,rfl⟩
 by_cases h2:op=2
 · subst h2;rw [show P_ 2=0 by decide];go_enter Tryz.func149,Tryz.ntmps149;go_wp2;go_ret;exact ⟨rfl,rfl⟩
 by_cases h3:op=3
 · subst h3;rw [show P_ 3=2 by decide];go_enter Tryz.func149,Tryz.ntmps149;go_wp2;go_ret;exact ⟨rfl,rfl⟩
 by_cases h4:op=4
 · subst h4;rw [show P_ 4=2 by decide];go_enter Tryz.func149,Tryz.ntmps149;go_wp2;go_ret;exact ⟨rfl,rfl⟩
 have c1:(op == 1)=false:=beq_eq_false_iff_ne.2 h1;have c2:(op == 2)=false:=beq_eq_false_iff_ne.2 h2;have c3:(op == 3)=false:=beq_eq_false_iff_ne.2 h3;have c4:(op == 4)=false:=beq_eq_false_iff_ne.2 h4;by_cases h5:5≤op
 · by_cases h7:op≤7
   · have e:P_ op=1:=by unfold P_;rw [if_neg (by omega),if_neg (by omega),if_pos ⟨h5,h7⟩]
     rw [e];go_enter Tryz.func149,Tryz.ntmps149;go_wp2;go_ret;exact ⟨rfl,rfl⟩
   · have e:P_ op = -1:=by unfold P_;rw [if_neg (by omega),if_neg (by omega),if_neg (by omega)]
     rw [e];go_enter Tryz.func149,Tryz.ntmps149;go_wp2;go_ret;exact ⟨rfl,rfl⟩
 · have e:P_ op = -1:=by unfold P_;rw [if_neg (by omega),if_neg (by omega),if_neg (by omega)]
   rw [e];go_enter Tryz.func149,Tryz.ntmps149;go_wp2;go_ret;exact ⟨rfl,rfl⟩
theorem a2X (l:List Cel) {k:Nat} (h:C_ l k=none):∀ m,k≤m→C_ l m=none
 | 0,hm=>by
  have:k=0:=by omega
  subst this;exact h
 | m+1,hm=>by
  by_cases e:k=m+1
  · subst e;exact h
  · have ih:=a2X l h m (by omega)
    rw [C_,ih]
theorem a5t (l:List Cel) {k:Nat} {d:Int} (h:C_ l k=some d) (hk:k<l.length):C_ l (k+1)=if b4Y d l[k] then none else some (d - P_ l[k].op+1):=by
 rw [C_,h,List.getElem?_eq_getElem hk]
theorem a9o (op:Int):-1≤P_ op∧P_ op≤2:=by
 unfold P_;split
 · omega
 · split
   · omega
   · split <;> omega
theorem a7k {l:List Cel} (h1:1≤l.length) (h2:l.length≤60) {d:Int} (h:C_ l l.length=some d):v_ l=(d == 1):=by
 unfold v_;rw [decide_eq_true h1,decide_eq_true h2,h,Bool.eq_iff_iff];simp
theorem a7l {l:List Cel} (h:C_ l l.length=none):v_ l=false:=by
 unfold v_;rw [h];simp
set_option maxRecDepth 20000 in
set_option maxHeartbeats 4000000 in
theorem c1t (v:Value) (l:List Cel) (w:World) (hA:Cels w v l):Calls Tryz.prog 101 #[v] w fun e w'=>e=.returned (.bool (v_ l))∧w'=w:=by
 obtain ⟨av,cv,rfl,_,_,hFl,hAt⟩:=hA;have hAt:=hid hAt;by_cases h0:l.length<1
 · have e:v_ l=false:=by unfold v_;rw [decide_eq_false (by omega:¬ 1≤l.length)];rfl
   rw [e];have h0z:(l.length:Int)<1:=by omega
   go_enter Tryz.func101,Tryz.ntmps101;go_wp2;go_ret;exact ⟨rfl,rfl⟩
 by_cases h60:60<l.length
 · have e:v_ l=false:=by unfold v_;rw [decide_eq_false (by omega:¬ l.length≤60)];simp
   rw [e];have h0z:¬ (l.length:Int)<1:=by omega
   have h60z:(60:Int)<(l.length:Int):=by omega
   go_enter Tryz.func101,Tryz.ntmps101;go_wp2;go_ret;exact ⟨rfl,rfl⟩
 have h0z:¬ (l.length:Int)<1:=by omega
 have h60z:¬ (60:Int)<(l.length:Int):=by omega
 have hend:=hid (fun d=>@a7k l (by omega) (by omega) d);have hbad:=hid (fun k (hk:k≤l.length) (h:C_ l k=none)=>a7l (a2X l h l.length hk));have hsucc:=hid (fun k d=>@a5t l k d);have GW:=hid c0U;generalize v_ l=R at hend hbad ⊢;go_enter Tryz.func101,Tryz.ntmps101
 go_wp2;go_loopw [3,4] (fun d i wr=>∃ (k:Nat) (z:Int),k≤l.length∧i=.int .i64 k∧d=.int .i64 z∧Hid (C_ l k=some z)∧0≤z∧z≤k∧Hid (wr=w)) (fun _ i _=>l.length - (intOf i).toNat)
 case atStart=>exact ⟨0,0,Nat.zero_le _,rfl,rfl,hid rfl,Int.le_refl _,by omega,hid rfl⟩
 case round =>
  obtain ⟨k,z,hk,rfl,rfl,hdep,hz0,hzk,hwr⟩:=hrel;have hwr':=hwr.out;subst hwr';by_cases hlt:k<l.length
  · have hltz:(k:Int)<(l.length:Int):=by omega
    obtain ⟨b',o',rfl,hb',hat⟩:=hAt.out k hlt;have hs:=hid (hsucc.out k z hdep.out hlt);have hbk:=hid (hbad.out (k+1) (by omega));generalize l[k]=c at hat hs;obtain ⟨op,S⟩:=c;obtain ⟨sa,sb,sc,sd⟩:=S;obtain ⟨d0,d1,d2,d3,d4⟩:=hat;simp only at d0 d1 d2 d3 d4
    have GW0:=hid (fun u=>GW.out op u);have hwl:=a9o op;unfold b4Y at hs;simp only at hs
    generalize P_ op=q at GW0 hs hwl;have he:∀ u,(Op.equalIn 10000 202 (.agg #[.int .u64 (sa:Int),.int .u64 (sb:Int),.int .u64 (sc:Int),.int .u64 (sd:Int)]) (.agg #[.int .u64 0,.int .u64 0,.int .u64 0,.int .u64 0])).run Tryz.prog u=.ok (decide ((⟨sa,sb,sc,sd⟩:W4)=n_)) u:=fun u=>b4o 9998 sa sb sc sd 0 0 0 0 u
    have hgt:=Tryz.eqGuardType202;generalize decide ((⟨sa,sb,sc,sd⟩:W4)=n_)=E at he hs;have hop:decide (op=1)=(op == 1):=by rw [Bool.eq_iff_iff];simp
    rw [hop] at hs;clear hop;by_cases hq:q<0
    · have hR:R=false:=hbk.out (by rw [hs.out,decide_eq_true hq];rfl)
      subst hR;go_wp2_with (go_at_call 149;refine (GW0.out _).mono ?_;rintro e u1 ⟨rfl,hu⟩;subst u1)
      go_ret;exact ⟨rfl,rfl⟩
    · by_cases hd:z<q
      · have hR:R=false:=hbk.out (by rw [hs.out,decide_eq_true hd,Bool.or_true];rfl)
        subst hR;go_wp2_with (go_at_call 149;refine (GW0.out _).mono ?_;rintro e u1 ⟨rfl,hu⟩;subst u1)
        go_ret;exact ⟨rfl,rfl⟩
      · rw [decide_eq_false hq,decide_eq_false hd,Bool.false_or,Bool.false_or] at hs
        cases hb:(E == (op == 1)) with
        | true =>
         have hR:R=false:=hbk.out (by rw [hs.out,hb];rfl);subst hR;clear hs;go_wp2_with (go_at_call 149;refine (GW0.out _).mono ?_;rintro e u1 ⟨rfl,hu⟩;subst u1)
         go_ret;exact ⟨rfl,rfl⟩
        | false =>
         rw [hb,if_neg Bool.false_ne_true] at hs;go_wp2_with (go_at_call 149;refine (GW0.out _).mono ?_;rintro e u1 ⟨rfl,hu⟩;subst u1)
         exact ⟨⟨k+1,z - q+1,by omega,by go_num,by go_num,hs,by omega,by omega,by first | exact hid rfl | exact hid trivial⟩,by simp [intOf];omega⟩
  · have hltz:¬ (k:Int)<(l.length:Int):=by omega
    have e:k=l.length:=by omega
    subst e;have hR:=hend.out z hdep.out;go_wp2;go_ret;exact ⟨by first | rfl | rw [hR],rfl⟩
end Go.Proofs.YtjgedijclkoemaaGreatDoor
