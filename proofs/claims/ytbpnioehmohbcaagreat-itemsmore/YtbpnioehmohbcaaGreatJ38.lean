/- Package check: soundProd, soundProds. Right of package regex. Package check: soundProds, soundRules. Package check: keyword, soundName. -/
import Derived.Test.YtbpnioehmohbcaaGreatJ37
import Derived.Test.YtbpnioehmohbcaaGreatJ4
import Derived.Test.YtbpnioehmohbcaaGreatJ7
import Derived.Test.YtbpnioehmohbcaaGreatJ5
import Derived.Test.YtbpnioehmohbcaaGreatJ15
import Derived.Test.YtbpnioehmohbcaaGreatJ13
namespace Go.Proofs.YtbpnioehmohbcaaGreat
open Go.RowKit Go.Maps Go.Sort
def symB (g:Gm) (n:Int):Bool:=trmB g n || ntmB g n
theorem symB_is (g:Gm) (n:Int):symB g n = (decide (1 ≤ n) && decide (n ≤ (g.all:Int))):=by
 unfold symB trmB ntmB
 have ha:g.terms ≤ g.all:=by unfold Gm.all;omega
 rw [Bool.eq_iff_iff]
 simp only [Bool.or_eq_true,Bool.and_eq_true,decide_eq_true_eq]
 omega
theorem pdB_is (g:Gm) (p:Pd):pdB g p = (decide (p.right.length ≤ 8) && p.right.all (symB g) && (ntmB g p.left && (decide (p.prec = 0) || trmB g p.prec))):=by
 unfold pdB
 have:(p.right.all fun k => decide (1 ≤ k) && decide (k ≤ (g.all:Int))) = p.right.all (symB g):=by
  congr 1
  funext n
  exact (symB_is g n).symm
 rw [this]
 unfold ntmB trmB
 generalize p.right.all (symB g) = A
 rw [Bool.eq_iff_iff]
 simp only [Bool.or_eq_true,Bool.and_eq_true,decide_eq_true_eq]
 constructor
 · rintro ⟨⟨⟨⟨⟨h1,h2⟩,h3⟩,h4⟩,h5⟩,h6⟩
   exact ⟨⟨h3,h6⟩,⟨h1,h2⟩,by omega⟩
 · rintro ⟨⟨h3,h6⟩,⟨h1,h2⟩,h4⟩
   exact ⟨⟨⟨⟨⟨h1,h2⟩,h3⟩,by omega⟩,by omega⟩,h6⟩
set_option maxRecDepth 20000 in
set_option maxHeartbeats 16000000 in
theorem prodC (rv nv lv pv:Value) (g:Gm) (st:Int) (p:Pd) (v:Value) (w:World) (hV:GmV w rv nv lv pv g) (hN:Nums w v p.right) (hl:g.rules.length ≤ 1000) (hl2:g.nonts.length ≤ 1000) (hr:p.right.length ≤ 1000) :
 Calls Tryz.prog 71 #[gmA rv nv lv pv st,.agg #[.int .i64 p.left,v,.int .i64 p.prec]] w fun e w' => e = .returned (.bool (pdB g p)) ∧ Below w.heap.size w w':=by
 obtain ⟨va,vc,rfl,-⟩:=id hN
 have hB1:=al' w (.cells #[rv,nv,lv,pv,.int .i64 st] 27)
 have k1:=heap_new w (.cells #[rv,nv,lv,pv,.int .i64 st] 27)
 obtain ⟨W1,hW1⟩:∃ x,w.alloc (.cells #[rv,nv,lv,pv,.int .i64 st] 27) = x:=⟨_,rfl⟩
 rw [hW1] at hB1 k1
 have hB2:=al' W1 (.cells #[.int .i64 p.left,.slice va p.right.length vc,.int .i64 p.prec] 52)
 have k2:=heap_new W1 (.cells #[.int .i64 p.left,.slice va p.right.length vc,.int .i64 p.prec] 52)
 obtain ⟨W,hW⟩:∃ x,W1.alloc (.cells #[.int .i64 p.left,.slice va p.right.length vc,.int .i64 p.prec] 52) = x:=⟨_,rfl⟩
 rw [hW] at hB2 k2
 have k1:=hs_keep k1 hB2
 have hB:=hid (bl_step hB1 hB2)
 have hk1:=hid (fun u (hu:Below W.heap.size W u) => cells5m (hs_keep k1 hu))
 have hk2:=hid (fun u (hu:Below W.heap.size W u) => cells3h (hs_keep k2 hu))
 have GT:=hid (fun u (hu:Below W.heap.size W u) n => termC rv nv lv pv g st n u (hV.keep (bl_step hB.out hu)) hl)
 have GN:=hid (fun u (hu:Below W.heap.size W u) n => nontK3 rv nv lv pv g st n u (hV.keep (bl_step hB.out hu)) hl hl2)
 have hNm:Hid (∀ u,Below W.heap.size W u → ∀ k (hk:k < p.right.length),∃ b o,va = some ⟨b,o,none⟩ ∧ u.cell? ⟨b,o + k,none⟩ = some (.int .i64 p.right[k])):=hid (fun u hu k hk => by
  obtain ⟨b,o,cap,e,_,_,hc⟩:=(hN.keep (bl_step hB.out hu)).at (by omega)
  injection e with e1 _ _
  exact ⟨b,o,e1,hc k hk⟩)
 rw [pdB_is]
 obtain ⟨rn,hrn⟩:∃ n,Hid (p.right.length = n):=⟨_,hid rfl⟩
 have hbad:Hid (∀ k (hk:k < p.right.length),symB g p.right[k] = false → p.right.all (symB g) = false):=hid (fun k hk h => by
  rw [List.all_eq_false]
  exact ⟨_,List.getElem_mem hk,by rw [h];decide⟩)
 have hgood:Hid ((∀ k (hk:k < p.right.length),symB g p.right[k] = true) → p.right.all (symB g) = true):=hid (fun h => by
  rw [List.all_eq_true]
  intro x hx
  obtain ⟨k,hk,rfl⟩:=List.getElem_of_mem hx
  exact h k hk)
 have hsy:=hid (fun n => show symB g n = (trmB g n || ntmB g n) from rfl)
 generalize p.right.all (symB g) = R at *
 generalize p.left = pl at *
 generalize p.prec = pc at *
 rw [hrn.out] at hr hk2 hW ⊢
 clear hV hB1 hB2 k1 k2 hN
 obtain ⟨x0,x1,x2,x3,x4⟩:=hk1.out W (Below.refl _ _)
 obtain ⟨y0,y1,y2⟩:=hk2.out W (Below.refl _ _)
 by_cases h8:(8:Int) < (rn:Int)
 · rw [decide_eq_false (show ¬ rn ≤ 8 by omega)]
   go_enter Tryz.func71,Tryz.ntmps71
   go_wp2
   go_ret
   exact ⟨rfl,hB.out⟩
 · rw [decide_eq_true (show rn ≤ 8 by omega)]
   go_enter Tryz.func71,Tryz.ntmps71
   go_wp2
   clear hW hW1 x0 x1 x2 x3 x4 y0 y1 y2
   go_loopw [14] (fun i wr => ∃ k:Nat,k ≤ rn ∧ i = .int .i64 (k:Int) ∧ Hid (∀ j (hj:j < p.right.length),j < k → symB g p.right[j] = true) ∧ Hid (Below W.heap.size W wr)) (fun i _ => rn - (intOf i).toNat)
   case atStart => exact ⟨0,Nat.zero_le _,rfl,hid (fun _ _ h => absurd h (Nat.not_lt_zero _)),hid (Below.refl _ _)⟩
   case round =>
    obtain ⟨k,hk,rfl,hI,hbl⟩:=hrel
    obtain ⟨x0,x1,x2,x3,x4⟩:=hk1.out wr hbl.out
    obtain ⟨y0,y1,y2⟩:=hk2.out wr hbl.out
    by_cases hlt:k < rn
    · have hltz:(k:Int) < (rn:Int):=by omega
      have hkl:k < p.right.length:=by rw [hrn.out];exact hlt
      obtain ⟨b,o,rfl,c0⟩:=hNm.out wr hbl.out k hkl
      have hbd9:=hid (hbad.out k hkl)
      have hmore:Hid (symB g p.right[k] = true → ∀ j (hj:j < p.right.length),j < k + 1 → symB g p.right[j] = true):=hid (fun h j hj h9 => by
       rcases Nat.lt_or_ge j k with h8 | h8
       · exact hI.out j hj h8
       · obtain rfl:j = k:=by omega
         exact h)
      clear hI hbad hgood
      generalize p.right[k] = n at *
      have G1:=hid (GT.out wr hbl.out n)
      rw [hsy.out] at hbd9 hmore
      cases ht:trmB g n with
      | true =>
       have hm9:=hid (hmore.out (by rw [ht];rfl))
       rw [ht] at G1
       clear hbd9 hmore
       go_wp2_with (go_at_call 103;refine G1.out.mono ?_;clear G1;rintro e w4 ⟨rfl,hc4⟩;have h4:=hid (bl_step hbl.out hc4);clear hc4)
       go_roundw
       case rel => exact ⟨k + 1,by omega,by go_num,hm9,h4⟩
       case measure => simp [intOf];omega
      | false =>
       rw [ht] at G1 hbd9 hmore
       cases hn:ntmB g n with
       | true =>
        have hm9:=hid (hmore.out (by rw [hn];rfl))
        clear hbd9 hmore
        go_wp2_with (first
         | (go_at_call 103;refine G1.out.mono ?_;clear G1;rintro e w4 ⟨rfl,hc4⟩;have h4:=hid (bl_step hbl.out hc4);have G2:=hid (GN.out w4 h4.out n);rw [hn] at G2;obtain ⟨z0,z1,z2,z3,z4⟩:=hk1.out w4 h4.out;clear hc4)
         | (go_at_call 70;refine G2.out.mono ?_;clear G2;rintro e w5 ⟨rfl,hc5⟩;have h5:=hid (bl_step h4.out hc5);clear hc5))
        go_roundw
        case rel => exact ⟨k + 1,by omega,by go_num,hm9,h5⟩
        case measure => simp [intOf];omega
       | false =>
        obtain rfl:=hbd9.out (by rw [hn];rfl)
        clear hbd9 hmore
        go_wp2_with (first
         | (go_at_call 103;refine G1.out.mono ?_;clear G1;rintro e w4 ⟨rfl,hc4⟩;have h4:=hid (bl_step hbl.out hc4);have G2:=hid (GN.out w4 h4.out n);rw [hn] at G2;obtain ⟨z0,z1,z2,z3,z4⟩:=hk1.out w4 h4.out;clear hc4)
         | (go_at_call 70;refine G2.out.mono ?_;clear G2;rintro e w5 ⟨rfl,hc5⟩;have h5:=hid (bl_step h4.out hc5);clear hc5))
        go_ret
        exact ⟨rfl,bl_step hB.out h5.out⟩
    · have hltz:¬ (k:Int) < (rn:Int):=by omega
      obtain rfl:=hgood.out (fun j hj => hI.out j hj (by rw [hrn.out] at hj;omega))
      clear hI hbad hgood hNm
      have G1:=hid (GN.out wr hbl.out pl)
      cases hn:ntmB g pl with
      | false =>
       rw [hn] at G1
       go_wp2_with (go_at_call 70;refine G1.out.mono ?_;clear G1;rintro e w4 ⟨rfl,hc4⟩;have h4:=hid (bl_step hbl.out hc4);clear hc4)
       go_ret
       exact ⟨by rw [hn];rfl,bl_step hB.out h4.out⟩
      | true =>
       rw [hn] at G1
       by_cases hp0:pc = 0
       · subst hp0
         go_wp2_with (go_at_call 70;refine G1.out.mono ?_;clear G1;rintro e w4 ⟨rfl,hc4⟩;have h4:=hid (bl_step hbl.out hc4);obtain ⟨z0,z1,z2⟩:=hk2.out w4 h4.out;clear hc4)
         go_ret
         exact ⟨rfl,bl_step hB.out h4.out⟩
       · have hp0z:(pc == 0) = false:=by rw [beq_eq_false_iff_ne];exact hp0
         go_wp2_with (first
          | (go_at_call 70;refine G1.out.mono ?_;clear G1;rintro e w4 ⟨rfl,hc4⟩;have h4:=hid (bl_step hbl.out hc4);obtain ⟨z0,z1,z2⟩:=hk2.out w4 h4.out;obtain ⟨u0,u1,u2,u3,u4⟩:=hk1.out w4 h4.out;have G2:=hid (GT.out w4 h4.out pc);clear hc4)
          | (go_at_call 103;refine G2.out.mono ?_;clear G2;rintro e w5 ⟨rfl,hc5⟩;have h5:=hid (bl_step h4.out hc5);clear hc5))
         go_ret
         exact ⟨by rw [hn,decide_eq_false hp0];simp,bl_step hB.out h5.out⟩
end Go.Proofs.YtbpnioehmohbcaaGreat
namespace Go.Proofs.YtbpnioehmohbcaaGreat
open Go.RowKit
set_option maxRecDepth 20000 in
theorem operandsC (op:Int) (w:World):Calls Tryz.prog 99 #[.int .i64 op] w fun e w' => e = .returned (.int .i64 (wants op)) ∧ w' = w:=by
 by_cases h1:op = 1
 · subst h1;rw [show wants 1 = 0 by decide];go_enter Tryz.func99,Tryz.ntmps99;go_wp2;go_ret;exact ⟨rfl,rfl⟩
 by_cases h2:op = 2
 · subst h2;rw [show wants 2 = 0 by decide];go_enter Tryz.func99,Tryz.ntmps99;go_wp2;go_ret;exact ⟨rfl,rfl⟩
 by_cases h3:op = 3
 · subst h3;rw [show wants 3 = 2 by decide];go_enter Tryz.func99,Tryz.ntmps99;go_wp2;go_ret;exact ⟨rfl,rfl⟩
 by_cases h4:op = 4
 · subst h4;rw [show wants 4 = 2 by decide];go_enter Tryz.func99,Tryz.ntmps99;go_wp2;go_ret;exact ⟨rfl,rfl⟩
 by_cases h5:op = 5
 · subst h5;rw [show wants 5 = 1 by decide];go_enter Tryz.func99,Tryz.ntmps99;go_wp2;go_ret;exact ⟨rfl,rfl⟩
 by_cases h6:op = 6
 · subst h6;rw [show wants 6 = 1 by decide];go_enter Tryz.func99,Tryz.ntmps99;go_wp2;go_ret;exact ⟨rfl,rfl⟩
 by_cases h7:op = 7
 · subst h7;rw [show wants 7 = 1 by decide];go_enter Tryz.func99,Tryz.ntmps99;go_wp2;go_ret;exact ⟨rfl,rfl⟩
 have c1:(op == 1) = false:=beq_eq_false_iff_ne.2 h1
 have c2:(op == 2) = false:=beq_eq_false_iff_ne.2 h2
 have c3:(op == 3) = false:=beq_eq_false_iff_ne.2 h3
 have c4:(op == 4) = false:=beq_eq_false_iff_ne.2 h4
 have c5:(op == 5) = false:=beq_eq_false_iff_ne.2 h5
 have c6:(op == 6) = false:=beq_eq_false_iff_ne.2 h6
 have c7:(op == 7) = false:=beq_eq_false_iff_ne.2 h7
 have e:wants op = -1:=by unfold wants;rw [if_neg (by omega),if_neg (by omega),if_neg (by omega)]
 rw [e]
 clear h1 h2 h3 h4 h5 h6 h7
 go_enter Tryz.func99,Tryz.ntmps99;go_wp2;go_ret;exact ⟨rfl,rfl⟩
abbrev celV (op:Int) (a b c d:Nat):Value:=.agg #[.int .i64 op,.int .u64 (a:Int),.int .u64 (b:Int),.int .u64 (c:Int),.int .u64 (d:Int)]
set_option maxRecDepth 20000 in
set_option maxHeartbeats 1000000 in
theorem rightSetC (op:Int) (a b c d:Nat) (w:World):Calls Tryz.prog 100 #[celV op a b c d] w fun e w' => e = .returned (.bool (!(decide ((⟨a,b,c,d⟩:W4) = noneB) == (op == 1)))) ∧ Below w.heap.size w w':=by
 have he:∀ u,(Op.equalIn 10000 130 (.agg #[.int .u64 (a:Int),.int .u64 (b:Int),.int .u64 (c:Int),.int .u64 (d:Int)]) (.agg #[.int .u64 0,.int .u64 0,.int .u64 0,.int .u64 0])).run Tryz.prog u = .ok (decide ((⟨a,b,c,d⟩:W4) = noneB)) u:=fun u => equal4 9998 a b c d 0 0 0 0 u
 generalize decide ((⟨a,b,c,d⟩:W4) = noneB) = E at he ⊢
 have hb:∀ x y:Bool,∀ u,(binOp .eql 4 (.bool x) (.bool y)).run Tryz.prog u = .ok (.bool (x == y)) u:=fun x y u => by cases x <;> cases y <;> kernel_rfl
 go_enter Tryz.func100,Tryz.ntmps100
 go_wp2_with fail
 go_quiet (fail)
 go_wp2
 go_ret
 refine ⟨?_,?_⟩
 · cases E <;> cases (op == 1) <;> rfl
 · exact (al' w _).trans ⟨rfl,rfl,rfl,Nat.le_refl _,fun _ _ => rfl⟩
set_option maxRecDepth 20000 in
set_option maxHeartbeats 4000000 in
theorem rightP (v:Value) (l:List Cel) (w:World) (hA:Cels w v l):Calls Tryz.prog 66 #[v] w fun e w' => e = .returned (.bool (rightB l)) ∧ Below w.heap.size w w':=by
 obtain ⟨av,cv,rfl,_,_,hFl,hAt⟩:=hA
 have hAt:=hid hAt
 by_cases h60:60 < l.length
 · have e:rightB l = false:=by unfold rightB;rw [decide_eq_false (by omega:¬ l.length ≤ 60)];simp
   rw [e]
   have h60z:(60:Int) < (l.length:Int):=by omega
   go_enter Tryz.func66,Tryz.ntmps66;go_wp2;go_ret;exact ⟨rfl,Below.refl _ _⟩
 have h60z:¬ (60:Int) < (l.length:Int):=by omega
 have hend:=hid (fun (h:1 ≤ l.length) d => @right_end l h (by omega) d)
 have hnil:Hid (l.length = 0 → rightB l = false):=hid (fun h => by unfold rightB;rw [decide_eq_false (by omega:¬ 1 ≤ l.length)];rfl)
 have hbad:=hid (fun k (hk:k ≤ l.length) (h:depthN l k = none) => right_bad (depth_none l h l.length hk))
 have hsucc:=hid (fun k d => @depth_succ l k d)
 have GW:=hid operandsC
 have GS:=hid rightSetC
 generalize rightB l = R at hend hbad hnil ⊢
 go_enter Tryz.func66,Tryz.ntmps66
 go_wp2
 go_loopw [3,12] (fun d i wr => ∃ (k:Nat) (z:Int),k ≤ l.length ∧ i = .int .i64 k ∧ d = .int .i64 z ∧ Hid (depthN l k = some z) ∧ 0 ≤ z ∧ z ≤ k ∧ Below w.heap.size w wr) (fun _ i _ => l.length - (intOf i).toNat)
 case atStart => exact ⟨0,0,Nat.zero_le _,rfl,rfl,hid rfl,Int.le_refl _,by omega,Below.refl _ _⟩
 case round =>
  obtain ⟨k,z,hk,rfl,rfl,hdep,hz0,hzk,hbl⟩:=hrel
  by_cases hlt:k < l.length
  · have hltz:(k:Int) < (l.length:Int):=by omega
    obtain ⟨b',o',rfl,hb',hat0⟩:=hAt.out k hlt
    have hat:=hat0.keep hbl
    clear hat0
    have hs:=hid (hsucc.out k z hdep.out hlt)
    have hbk:=hid (hbad.out (k + 1) (by omega))
    generalize l[k] = c at hat hs
    obtain ⟨op,S⟩:=c
    obtain ⟨sa,sb,sc,sd⟩:=S
    obtain ⟨d0,d1,d2,d3,d4⟩:=hat
    simp only at d0 d1 d2 d3 d4
    have GW0:=hid (fun u => GW.out op u)
    have GS0:=hid (fun u => GS.out op sa sb sc sd u)
    have hwl:=wants_le op
    have hbb:=hid (al' wr (.cells #[.int .i64 op,.int .u64 (sa:Int),.int .u64 (sb:Int),.int .u64 (sc:Int),.int .u64 (sd:Int)] 132))
    unfold badC at hs
    simp only at hs
    generalize wants op = q at GW0 hs hwl
    have hop:decide (op = 1) = (op == 1):=by rw [Bool.eq_iff_iff];simp
    rw [hop] at hs
    clear hop
    generalize (decide ((⟨sa,sb,sc,sd⟩:W4) = noneB) == (op == 1)) = E at GS0 hs
    by_cases hq:q < 0
    · have hR:R = false:=hbk.out (by rw [hs.out,decide_eq_true hq];rfl)
      subst hR
      go_wp2_with (go_at_call 99;refine (GW0.out _).mono ?_;rintro e u1 ⟨rfl,hu⟩;subst u1)
      go_ret
      exact ⟨rfl,bl_step hbl hbb.out⟩
    · by_cases hd:z < q
      · have hR:R = false:=hbk.out (by rw [hs.out,decide_eq_true hd,Bool.or_true];rfl)
        subst hR
        go_wp2_with (go_at_call 99;refine (GW0.out _).mono ?_;rintro e u1 ⟨rfl,hu⟩;subst u1)
        go_ret
        exact ⟨rfl,bl_step hbl hbb.out⟩
      · rw [decide_eq_false hq,decide_eq_false hd,Bool.false_or,Bool.false_or] at hs
        cases E with
        | true =>
         have hR:R = false:=hbk.out (by rw [hs.out];rfl)
         subst hR
         clear hs
         go_wp2_with (first
          | (go_at_call 99;refine (GW0.out _).mono ?_;rintro e u1 ⟨rfl,hu⟩;subst u1)
          | (go_at_call 100;refine (GS0.out _).mono ?_;rintro e w1 ⟨rfl,hb1⟩))
         go_ret
         exact ⟨rfl,bl_step (bl_step hbl hbb.out) hb1⟩
        | false =>
         rw [if_neg Bool.false_ne_true] at hs
         go_wp2_with (first
          | (go_at_call 99;refine (GW0.out _).mono ?_;rintro e u1 ⟨rfl,hu⟩;subst u1)
          | (go_at_call 100;refine (GS0.out _).mono ?_;rintro e w1 ⟨rfl,hb1⟩))
         go_roundw
         case rel => exact ⟨k + 1,z - q + 1,by omega,by go_num,by go_num,hs,by omega,by omega,bl_step (bl_step hbl hbb.out) hb1⟩
         case measure => simp [intOf];omega
  · have hltz:¬ (k:Int) < (l.length:Int):=by omega
    have e:k = l.length:=by omega
    subst e
    by_cases hl0:l.length = 0
    · have hR:=hnil.out hl0
      have hz:z = 0:=by omega
      subst hz
      subst hR
      go_wp2
      go_ret
      exact ⟨rfl,hbl⟩
    · have hR:=hend.out (by omega) z hdep.out
      clear hl0
      go_wp2
      go_ret
      exact ⟨by first | rfl | rw [hR],hbl⟩
end Go.Proofs.YtbpnioehmohbcaaGreat
namespace Go.Proofs.YtbpnioehmohbcaaGreat
open Go.RowKit Go.Maps Go.Sort
set_option maxRecDepth 20000 in
set_option maxHeartbeats 16000000 in
theorem prodsC (rv nv lv pv:Value) (g:Gm) (st:Int) (w:World) (hV:GmV w rv nv lv pv g) (hb:BndG g) (hl:g.rules.length ≤ 1000) (hl2:g.nonts.length ≤ 1000) (hl3:g.prods.length ≤ 1000) :
 Calls Tryz.prog 52 #[gmA rv nv lv pv st] w fun e w' => e = .returned (.bool (g.prods.all (pdB g))) ∧ Below w.heap.size w w':=by
 obtain ⟨pa,pc,rfl⟩:=hV.prods.shape
 have hB1:=al' w (.cells #[rv,nv,lv,.slice pa g.prods.length pc,.int .i64 st] 27)
 have k1:=heap_new w (.cells #[rv,nv,lv,.slice pa g.prods.length pc,.int .i64 st] 27)
 obtain ⟨W,hW⟩:∃ x,w.alloc (.cells #[rv,nv,lv,.slice pa g.prods.length pc,.int .i64 st] 27) = x:=⟨_,rfl⟩
 rw [hW] at hB1 k1
 have hB:=hid hB1
 have hk1:=hid (fun u (hu:Below W.heap.size W u) => cells5m (hs_keep k1 hu))
 have hKp:Hid (∀ u,Below W.heap.size W u → ∀ k (hk:k < g.prods.length),∃ b o q1 q3,pa = some ⟨b,o,none⟩ ∧ u.cell? ⟨b,o + k * 3,none⟩ = some (.int .i64 g.prods[k].left) ∧ u.cell? ⟨b,o + k * 3 + 1,none⟩ = some (.slice q1 g.prods[k].right.length q3) ∧ u.cell? ⟨b,o + k * 3 + 2,none⟩ = some (.int .i64 g.prods[k].prec) ∧ ∀ u',Below u.heap.size u u' → Calls Tryz.prog 71 #[gmA rv nv lv (.slice pa g.prods.length pc) st,.agg #[.int .i64 g.prods[k].left,.slice q1 g.prods[k].right.length q3,.int .i64 g.prods[k].prec]] u' fun e w' => e = .returned (.bool (pdB g g.prods[k])) ∧ Below u'.heap.size u' w'):=hid (fun u hu k hk => by
  obtain ⟨b,o,e,-,v,h0,h1,h2,hN⟩:=(hV.keep (bl_step hB1 hu)).prods.at hk
  obtain ⟨q1,q3,rfl,-⟩:=id hN
  exact ⟨b,o,q1,q3,e,h0,h1,h2,fun u' hu' => prodC rv nv lv _ g st g.prods[k] _ u' (hV.keep (bl_step hB1 (bl_step hu hu'))) (hN.keep hu') hl hl2 (by have:=hb.right _ (List.getElem_mem hk);omega)⟩)
 have hbad:Hid (∀ k (hk:k < g.prods.length),pdB g g.prods[k] = false → g.prods.all (pdB g) = false):=hid (fun k hk h => by
  rw [List.all_eq_false]
  exact ⟨_,List.getElem_mem hk,by rw [h];decide⟩)
 have hgood:Hid ((∀ k (hk:k < g.prods.length),pdB g g.prods[k] = true) → g.prods.all (pdB g) = true):=hid (fun h => by
  rw [List.all_eq_true]
  intro x hx
  obtain ⟨k,hk,rfl⟩:=List.getElem_of_mem hx
  exact h k hk)
 generalize g.prods.all (pdB g) = R at *
 obtain ⟨pn,hpn⟩:∃ n,Hid (g.prods.length = n):=⟨_,hid rfl⟩
 obtain ⟨x0,x1,x2,x3,x4⟩:=hk1.out W (Below.refl _ _)
 have hKp':Hid (∀ u,Below W.heap.size W u → ∀ k (hk:k < g.prods.length),∃ b o q1 q3,pa = some ⟨b,o,none⟩ ∧ u.cell? ⟨b,o + k * 3,none⟩ = some (.int .i64 g.prods[k].left) ∧ u.cell? ⟨b,o + k * 3 + 1,none⟩ = some (.slice q1 g.prods[k].right.length q3) ∧ u.cell? ⟨b,o + k * 3 + 2,none⟩ = some (.int .i64 g.prods[k].prec) ∧ ∀ u',Below u.heap.size u u' → Calls Tryz.prog 71 #[gmA rv nv lv (.slice pa pn pc) st,.agg #[.int .i64 g.prods[k].left,.slice q1 g.prods[k].right.length q3,.int .i64 g.prods[k].prec]] u' fun e w' => e = .returned (.bool (pdB g g.prods[k])) ∧ Below u'.heap.size u' w'):=hid (fun u hu k hk => by
  have:=hKp.out u hu k hk
  rw [hpn.out] at this
  exact this)
 rw [hpn.out] at hl3 hk1 hW x3 ⊢
 clear hV hB1 k1 hKp hb
 go_enter Tryz.func52,Tryz.ntmps52
 go_wp2
 clear hW x0 x1 x2 x3 x4
 go_loopw [8] (fun i wr => ∃ k:Nat,k ≤ pn ∧ i = .int .i64 (k:Int) ∧ Hid (∀ j (hj:j < g.prods.length),j < k → pdB g g.prods[j] = true) ∧ Hid (Below W.heap.size W wr)) (fun i _ => pn - (intOf i).toNat)
 case atStart => exact ⟨0,Nat.zero_le _,rfl,hid (fun _ _ h => absurd h (Nat.not_lt_zero _)),hid (Below.refl _ _)⟩
 case round =>
  obtain ⟨k,hk,rfl,hI,hbl⟩:=hrel
  by_cases hlt:k < pn
  · have hltz:(k:Int) < (pn:Int):=by omega
    have hkl:k < g.prods.length:=by rw [hpn.out];exact hlt
    obtain ⟨b,o,q1,q3,rfl,c0,c1,c2,G⟩:=hKp'.out wr hbl.out k hkl
    have hal:=al' wr (.cells #[.int .i64 g.prods[k].left,.slice q1 g.prods[k].right.length q3,.int .i64 g.prods[k].prec] 52)
    have hBa:=hid (bl_step hbl.out hal)
    obtain ⟨x0,x1,x2,x3,x4⟩:=hk1.out _ hBa.out
    have G:=hid (G _ hal)
    have hbd9:=hid (hbad.out k hkl)
    have hmore:Hid (pdB g g.prods[k] = true → ∀ j (hj:j < g.prods.length),j < k + 1 → pdB g g.prods[j] = true):=hid (fun h j hj h9 => by
     rcases Nat.lt_or_ge j k with h8 | h8
     · exact hI.out j hj h8
     · obtain rfl:j = k:=by omega
       exact h)
    clear hI hbad hgood hal hKp'
    cases hb:pdB g g.prods[k] with
    | true =>
     have hm9:=hid (hmore.out hb)
     rw [hb] at G
     clear hbd9 hmore hb
     generalize g.prods[k].left = v1 at *
     generalize g.prods[k].right.length = v2 at *
     generalize g.prods[k].prec = v3 at *
     go_wp2_with (go_at_call 71;refine G.out.mono ?_;clear G;rintro e w4 ⟨rfl,hc4⟩;have h4:=hid (bl_step hBa.out hc4);clear hc4)
     go_roundw
     case rel => exact ⟨k + 1,by omega,by go_num,hm9,h4⟩
     case measure => simp [intOf];omega
    | false =>
     obtain rfl:=hbd9.out hb
     rw [hb] at G
     clear hbd9 hmore hb
     generalize g.prods[k].left = v1 at *
     generalize g.prods[k].right.length = v2 at *
     generalize g.prods[k].prec = v3 at *
     go_wp2_with (go_at_call 71;refine G.out.mono ?_;clear G;rintro e w4 ⟨rfl,hc4⟩;have h4:=hid (bl_step hBa.out hc4);clear hc4)
     go_ret
     exact ⟨rfl,bl_step hB.out h4.out⟩
  · have hltz:¬ (k:Int) < (pn:Int):=by omega
    obtain rfl:=hgood.out (fun j hj => hI.out j hj (by rw [hpn.out] at hj;omega))
    go_wp2
    go_ret
    exact ⟨rfl,bl_step hB.out hbl.out⟩
set_option maxRecDepth 20000 in
set_option maxHeartbeats 16000000 in
theorem rulesC (rv nv lv pv:Value) (g:Gm) (st:Int) (w:World) (hV:GmV w rv nv lv pv g) (hl:g.rules.length ≤ 1000) :
 Calls Tryz.prog 48 #[gmA rv nv lv pv st] w fun e w' => e = .returned (.bool (g.rules.all fun r => rightB r.re)) ∧ Below w.heap.size w w':=by
 obtain ⟨ra,rc,rfl⟩:=hV.rules.shape
 have hB1:=al' w (.cells #[.slice ra g.rules.length rc,nv,lv,pv,.int .i64 st] 27)
 have k1:=heap_new w (.cells #[.slice ra g.rules.length rc,nv,lv,pv,.int .i64 st] 27)
 obtain ⟨W,hW⟩:∃ x,w.alloc (.cells #[.slice ra g.rules.length rc,nv,lv,pv,.int .i64 st] 27) = x:=⟨_,rfl⟩
 rw [hW] at hB1 k1
 have hB:=hid hB1
 have hKp:Hid (∀ u,Below W.heap.size W u → ∀ k (hk:k < g.rules.length),∃ b o q1 q3,ra = some ⟨b,o,none⟩ ∧ u.cell? ⟨b,o + k * 3,none⟩ = some (.string (strT g.rules[k].name)) ∧ u.cell? ⟨b,o + k * 3 + 1,none⟩ = some (.slice q1 g.rules[k].re.length q3) ∧ u.cell? ⟨b,o + k * 3 + 2,none⟩ = some (.bool g.rules[k].skip) ∧ ∀ u',Below u.heap.size u u' → Calls Tryz.prog 66 #[.slice q1 g.rules[k].re.length q3] u' fun e w' => e = .returned (.bool (rightB g.rules[k].re)) ∧ Below u'.heap.size u' w'):=hid (fun u hu k hk => by
  obtain ⟨b,o,e,-,v,h0,h1,h2,hN⟩:=(hV.keep (bl_step hB1 hu)).rules.at hk
  obtain ⟨q1,q3,rfl,-⟩:=id hN
  exact ⟨b,o,q1,q3,e,h0,h1,h2,fun u' hu' => rightP _ _ u' (hN.keep hu')⟩)
 have hbad:Hid (∀ k (hk:k < g.rules.length),rightB g.rules[k].re = false → (g.rules.all fun r => rightB r.re) = false):=hid (fun k hk h => by
  rw [List.all_eq_false]
  exact ⟨_,List.getElem_mem hk,by rw [h];decide⟩)
 have hgood:Hid ((∀ k (hk:k < g.rules.length),rightB g.rules[k].re = true) → (g.rules.all fun r => rightB r.re) = true):=hid (fun h => by
  rw [List.all_eq_true]
  intro x hx
  obtain ⟨k,hk,rfl⟩:=List.getElem_of_mem hx
  exact h k hk)
 generalize (g.rules.all fun r => rightB r.re) = R at *
 obtain ⟨pn,hpn⟩:∃ n,Hid (g.rules.length = n):=⟨_,hid rfl⟩
 have x0:W.cell? ⟨w.heap.size,0,none⟩ = some (.slice ra g.rules.length rc):=blk_cell k1 rfl
 rw [hpn.out] at hl hW x0 ⊢
 clear hV hB1 k1
 go_enter Tryz.func48,Tryz.ntmps48
 go_wp2
 clear hW x0
 go_loopw [8] (fun i wr => ∃ k:Nat,k ≤ pn ∧ i = .int .i64 (k:Int) ∧ Hid (∀ j (hj:j < g.rules.length),j < k → rightB g.rules[j].re = true) ∧ Hid (Below W.heap.size W wr)) (fun i _ => pn - (intOf i).toNat)
 case atStart => exact ⟨0,Nat.zero_le _,rfl,hid (fun _ _ h => absurd h (Nat.not_lt_zero _)),hid (Below.refl _ _)⟩
 case round =>
  obtain ⟨k,hk,rfl,hI,hbl⟩:=hrel
  by_cases hlt:k < pn
  · have hltz:(k:Int) < (pn:Int):=by omega
    have hkl:k < g.rules.length:=by rw [hpn.out];exact hlt
    obtain ⟨b,o,q1,q3,rfl,c0,c1,c2,G⟩:=hKp.out wr hbl.out k hkl
    have hal:=al' wr (.cells #[.string (strT g.rules[k].name),.slice q1 g.rules[k].re.length q3,.bool g.rules[k].skip] 50)
    have hBa:=hid (bl_step hbl.out hal)
    have G:=hid (G _ hal)
    have hbd9:=hid (hbad.out k hkl)
    have hmore:Hid (rightB g.rules[k].re = true → ∀ j (hj:j < g.rules.length),j < k + 1 → rightB g.rules[j].re = true):=hid (fun h j hj h9 => by
     rcases Nat.lt_or_ge j k with h8 | h8
     · exact hI.out j hj h8
     · obtain rfl:j = k:=by omega
       exact h)
    clear hI hbad hgood hal hKp
    cases hb:rightB g.rules[k].re with
    | true =>
     have hm9:=hid (hmore.out hb)
     rw [hb] at G
     clear hbd9 hmore hb
     generalize strT g.rules[k].name = v1 at *
     generalize g.rules[k].re.length = v2 at *
     generalize g.rules[k].skip = v3 at *
     go_wp2_with (go_at_call 66;refine G.out.mono ?_;clear G;rintro e w4 ⟨rfl,hc4⟩;have h4:=hid (bl_step hBa.out hc4);clear hc4)
     go_roundw
     case rel => exact ⟨k + 1,by omega,by go_num,hm9,h4⟩
     case measure => simp [intOf];omega
    | false =>
     obtain rfl:=hbd9.out hb
     rw [hb] at G
     clear hbd9 hmore hb
     generalize strT g.rules[k].name = v1 at *
     generalize g.rules[k].re.length = v2 at *
     generalize g.rules[k].skip = v3 at *
     go_wp2_with (go_at_call 66;refine G.out.mono ?_;clear G;rintro e w4 ⟨rfl,hc4⟩;have h4:=hid (bl_step hBa.out hc4);clear hc4)
     go_ret
     exact ⟨rfl,bl_step hB.out h4.out⟩
  · have hltz:¬ (k:Int) < (pn:Int):=by omega
    obtain rfl:=hgood.out (fun j hj => hI.out j hj (by rw [hpn.out] at hj;omega))
    go_wp2
    go_ret
    exact ⟨rfl,bl_step hB.out hbl.out⟩
end Go.Proofs.YtbpnioehmohbcaaGreat
namespace Go.Proofs.YtbpnioehmohbcaaGreat
open Go.RowKit Go.Maps Go.Sort
theorem ckw_no {t:Txt} (h0:¬ t = [116,111,107,101,110]) (h1:¬ t = [115,107,105,112]) (h2:¬ t = [108,101,102,116]) (h3:¬ t = [114,105,103,104,116]) (h4:¬ t = [110,111,110,101]) (h5:¬ t = [115,116,97,114,116]):kwB t = false:=by
 have e:sdN t = 0:=by
  unfold sdN
  rw [if_neg (show ¬ t = kLeft from h2),if_neg (show ¬ t = kRight from h3),if_neg (show ¬ t = kNone from h4)]
 unfold kwB
 rw [e,decide_eq_false (show ¬ t = kTok from h0),decide_eq_false (show ¬ t = kSkip from h1),decide_eq_false (show ¬ t = kStart from h5)]
 rfl
set_option maxRecDepth 20000 in
set_option maxHeartbeats 4000000 in
theorem ckwC (t:Txt) (w:World):Calls Tryz.prog 101 #[.string (strT t)] w fun e w' => e = .returned (.bool (kwB t)) ∧ w' = w:=by
 by_cases h0:t = [116,111,107,101,110]
 · have hb0:((strT t).toList == ([116,111,107,101,110]:Txt)) = true:=strT_is3 h0
   have hR:kwB t = true:=by rw [h0];decide
   rw [hR]
   generalize strT t = S at *
   clear h0 hR
   go_enter Tryz.func101,Tryz.ntmps101
   go_wp2_with fail
   go_ret
   exact ⟨rfl,rfl⟩
 have hb0:((strT t).toList == ([116,111,107,101,110]:Txt)) = false:=strT_isnt3 h0
 by_cases h1:t = [115,107,105,112]
 · have hb1:((strT t).toList == ([115,107,105,112]:Txt)) = true:=strT_is3 h1
   have hR:kwB t = true:=by rw [h1];decide
   rw [hR]
   generalize strT t = S at *
   clear h0 h1 hR
   go_enter Tryz.func101,Tryz.ntmps101
   go_wp2_with fail
   go_ret
   exact ⟨rfl,rfl⟩
 have hb1:((strT t).toList == ([115,107,105,112]:Txt)) = false:=strT_isnt3 h1
 by_cases h2:t = [108,101,102,116]
 · have hb2:((strT t).toList == ([108,101,102,116]:Txt)) = true:=strT_is3 h2
   have hR:kwB t = true:=by rw [h2];decide
   rw [hR]
   generalize strT t = S at *
   clear h0 h1 h2 hR
   go_enter Tryz.func101,Tryz.ntmps101
   go_wp2_with fail
   go_ret
   exact ⟨rfl,rfl⟩
 have hb2:((strT t).toList == ([108,101,102,116]:Txt)) = false:=strT_isnt3 h2
 by_cases h3:t = [114,105,103,104,116]
 · have hb3:((strT t).toList == ([114,105,103,104,116]:Txt)) = true:=strT_is3 h3
   have hR:kwB t = true:=by rw [h3];decide
   rw [hR]
   generalize strT t = S at *
   clear h0 h1 h2 h3 hR
   go_enter Tryz.func101,Tryz.ntmps101
   go_wp2_with fail
   go_ret
   exact ⟨rfl,rfl⟩
 have hb3:((strT t).toList == ([114,105,103,104,116]:Txt)) = false:=strT_isnt3 h3
 by_cases h4:t = [110,111,110,101]
 · have hb4:((strT t).toList == ([110,111,110,101]:Txt)) = true:=strT_is3 h4
   have hR:kwB t = true:=by rw [h4];decide
   rw [hR]
   generalize strT t = S at *
   clear h0 h1 h2 h3 h4 hR
   go_enter Tryz.func101,Tryz.ntmps101
   go_wp2_with fail
   go_ret
   exact ⟨rfl,rfl⟩
 have hb4:((strT t).toList == ([110,111,110,101]:Txt)) = false:=strT_isnt3 h4
 by_cases h5:t = [115,116,97,114,116]
 · have hb5:((strT t).toList == ([115,116,97,114,116]:Txt)) = true:=strT_is3 h5
   have hR:kwB t = true:=by rw [h5];decide
   rw [hR]
   generalize strT t = S at *
   clear h0 h1 h2 h3 h4 h5 hR
   go_enter Tryz.func101,Tryz.ntmps101
   go_wp2_with fail
   go_ret
   exact ⟨rfl,rfl⟩
 have hb5:((strT t).toList == ([115,116,97,114,116]:Txt)) = false:=strT_isnt3 h5
 rw [ckw_no h0 h1 h2 h3 h4 h5]
 clear h0 h1 h2 h3 h4 h5
 generalize strT t = S at *
 go_enter Tryz.func101,Tryz.ntmps101
 go_wp2_with fail
 go_ret
 exact ⟨rfl,rfl⟩
theorem letB_not0 (n:Nat) (h:letB n = true):¬ n = 35 ∧ blnB n = false ∧ sgnB n = false:=by
 unfold letB at h
 simp only [Bool.or_eq_true,Bool.and_eq_true,decide_eq_true_eq,beq_iff_eq] at h
 refine ⟨by omega,Bool.eq_false_iff.2 fun h2 => ?_,Bool.eq_false_iff.2 fun h2 => ?_⟩
 · unfold blnB at h2
   simp only [Bool.or_eq_true,beq_iff_eq] at h2
   omega
 · unfold sgnB at h2
   simp only [Bool.or_eq_true,beq_iff_eq] at h2
   omega
theorem letB_not {c:UInt8} (h:letB c.toNat = true):¬ c.toNat = 35 ∧ blnB c.toNat = false ∧ sgnB c.toNat = false:=letB_not0 c.toNat h
def nmB (s:Txt):Bool:=(match s with | [] => false | c :: _ => letB c.toNat) && s.all (fun c => letB c.toNat || digB c.toNat)
theorem wrdR_pre (T:Txt):∀ (f a:Nat) (l:List Wd),(wrdR T f a l).2.2 = 0 → ∃ r,(wrdR T f a l).1 = l ++ r
 | 0,_,l,_ => ⟨[],by rw [List.append_nil];rfl⟩
 | f + 1,a,l,h => by
  rw [wrdR] at h ⊢
  split at h
  · rename_i hc
    rw [if_pos hc]
    exact ⟨[],by rw [List.append_nil]⟩
  · rename_i hc
    rw [if_neg hc]
    cases he:endL (T.drop a) with
    | none => rw [he] at h;exact absurd h (show ¬ (1:Int) = 0 by decide)
    | some n =>
     rw [he] at h
     obtain ⟨r,hr⟩:=wrdR_pre T f _ _ h
     exact ⟨_,by rw [hr,List.append_assoc]⟩
theorem namL_all3:∀ u:Txt,(u.all fun c => letB c.toNat || digB c.toNat) = true ↔ namL u = u.length
 | [] => by simp [namL]
 | c :: r => by
  have ih:=namL_all3 r
  have hle:=namL_le r
  rw [List.all_cons,namL,List.length_cons]
  cases hc:(letB c.toNat || digB c.toNat)
  · simp
  · rw [if_pos rfl,Bool.true_and,ih]
    omega
def oneB (s:Txt):Bool:=decide ((wrdA s).2.2 = 0) && (match (wrdA s).1 with | [x] => decide (x.1 = 1) && decide (x.2.2 = s) | _ => false)
theorem oneB_yes {s:Txt} (hl:s.length ≤ 16) (h:nmB s = true):oneB s = true:=by
 obtain ⟨c,r,rfl⟩:∃ c r,s = c :: r:=by cases s with | nil => exact absurd h (by decide) | cons c r => exact ⟨c,r,rfl⟩
 unfold nmB at h
 rw [Bool.and_eq_true] at h
 obtain ⟨h1,h2⟩:=h
 have h1:letB c.toNat = true:=h1
 have hn:=(namL_all3 _).1 h2
 have hb:=letB_not h1
 have hs0:skL false (c :: r) = 0:=by rw [skL,if_neg hb.1,if_neg (by rw [hb.2.1];decide)]
 have he:endL (c :: r) = some (c :: r).length:=by
  rw [endL,if_neg (by rw [hb.2.2];decide),if_pos h1,if_neg (by rw [hn];omega),hn]
 have hw:wrdA (c :: r) = ([(1,0,c :: r)],0,0):=by
  unfold wrdA
  rw [if_neg (by omega),hs0,List.length_cons,wrdR,if_neg (by rw [List.length_cons];omega),List.drop_zero,he]
  show wrdR (c :: r) r.length (0 + (c :: r).length + skL false ((c :: r).drop (0 + (c :: r).length))) ([] ++ [wdOf (c :: r) 0 (c :: r).length]) = _
  rw [wdOf_name (c:=c.toNat) rfl h1,List.drop_zero,List.take_length,Nat.zero_add,List.drop_length,skL]
  cases r with
  | nil => rfl
  | cons d r => rw [List.length_cons,wrdR,if_pos (by simp)];rfl
 unfold oneB
 rw [hw]
 simp
theorem oneB_is {s:Txt} (hl:s.length ≤ 16) (h:oneB s = true):nmB s = true:=by
 unfold oneB at h
 rw [Bool.and_eq_true,decide_eq_true_eq] at h
 obtain ⟨h1,h2⟩:=h
 unfold wrdA at h1 h2
 rw [if_neg (by omega)] at h1 h2
 cases hsl:s.length with
 | zero =>
  rw [hsl] at h2
  cases h2
 | succ f =>
  rw [hsl,wrdR] at h1 h2
  by_cases hc:s.length ≤ skL false s
  · rw [if_pos hc] at h2
    cases h2
  · rw [if_neg hc] at h1 h2
    cases he:endL (s.drop (skL false s)) with
    | none => rw [he] at h1;exact absurd h1 (show ¬ (1:Int) = 0 by decide)
    | some n =>
     rw [he] at h1 h2
     obtain ⟨t,ht⟩:=wrdR_pre s f _ _ h1
     simp only [] at h2
     rw [ht] at h2
     cases t with
     | cons x t => simp at h2
     | nil =>
      generalize skL false s = a at *
      have h3:(wdOf s a n).1 = 1 ∧ (wdOf s a n).2.2 = s:=by simpa using h2
      have hd:s.drop a ≠ []:=fun e => by have:=congrArg List.length e;rw [List.length_drop,List.length_nil] at this;omega
      obtain ⟨c,r,hcr⟩:∃ c r,s.drop a = c :: r:=by cases hq:s.drop a with | nil => exact absurd hq hd | cons c r => exact ⟨c,r,rfl⟩
      have hlc:letB c.toNat = true:=by
       have:=h3.1
       unfold wdOf kndW at this
       rw [hcr] at this
       cases hq:letB c.toNat with
       | true => rfl
       | false =>
        exfalso
        simp only [List.headD_cons,hq] at this
        by_cases h47:c.toNat = 47
        · simp [h47] at this
        · simp [h47] at this
      have h4:=h3.2
      rw [wdOf_name (c:=c.toNat) (by rw [hcr];rfl) hlc] at h4
      have h5:a = 0:=by
       have:=congrArg List.length h4
       simp only [List.length_take,List.length_drop] at this
       omega
      subst h5
      rw [List.drop_zero] at hcr h4 he
      have hb:=letB_not hlc
      rw [hcr,endL,if_neg (by rw [hb.2.2];decide),if_pos hlc,← hcr] at he
      split at he
      · cases he
      · injection he with he
        have h6:=congrArg List.length h4
        rw [List.length_take] at h6
        have h7:=namL_le s
        unfold nmB
        rw [Bool.and_eq_true]
        refine ⟨?_,(namL_all3 s).2 (by omega)⟩
        rw [hcr]
        exact hlc
theorem namB_one (s:Txt):namB s = (decide (s.length ≤ 16) && !kwB s && oneB s):=by
 by_cases hl:s.length ≤ 16
 · have:oneB s = nmB s:=by
    cases h:nmB s with
    | true => exact oneB_yes hl h
    | false => exact Bool.eq_false_iff.2 fun h' => by rw [oneB_is hl h'] at h;cases h
   rw [this]
   unfold namB nmB
   cases s with
   | nil => simp
   | cons c r =>
    cases kwB (c :: r)
    · simp [Bool.and_assoc]
    · simp
 · unfold namB
   rw [decide_eq_false hl]
   simp
end Go.Proofs.YtbpnioehmohbcaaGreat
