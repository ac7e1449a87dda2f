/- Package word's cutters: name, rule. A strings.Builder of the call's own: copyCheck, WriteByte, WriteString; strings.Clone. Package word: cutters, cut. topiaryref11.All: the words of a text. -/
import Derived.Test.YtbpnioehmohbcaaGreatJ11
import Derived.Test.YtbpnioehmohbcaaGreatShelf
import Derived.Lib.OthersKept
import Derived.Laws.EntriesVeiled
namespace Go.Proofs.YtbpnioehmohbcaaGreat
open Go.RowKit Go.Maps
set_option maxRecDepth 20000 in
set_option maxHeartbeats 8000000 in
theorem nameP (s:Txt) (w:World) (h0:0 < s.length) (hs:s.length ≤ 1000000):Calls Tryz.prog 79 #[.string (strT s)] w fun e w' => e = .returned (.int .i64 (nmC s:Int)) ∧ w' = w:=by
 have hsz:=strT_size s
 have h0n:0 < (strT s).size:=by omega
 have key:=str_get h0 h0n
 have hE:s = s.getD 0 0 :: s.drop 1:=by have:=drop_get h0;rwa [List.drop_zero] at this
 have hcb:=(s.getD 0 0).toNat_lt
 have GL:=hid (fun (c:Nat) (hc:c < 256) (u:World) => letterP c u hc)
 have GD:=hid (fun (c:Nat) (hc:c < 256) (u:World) => digitP c u hc)
 obtain ⟨R,hR⟩:∃ R,Hid (nmC s = R):=⟨_,hid rfl⟩
 rw [hR.out]
 have GL1:=hid (GL.out (s.getD 0 0).toNat hcb w)
 cases hlt:letB (s.getD 0 0).toNat with
 | false =>
  rw [hlt] at GL1
  have hr:R = 0:=by rw [← hR.out,hE,nmC,hlt,if_neg (by decide)]
  subst hr
  clear hR hE hlt GL GD
  generalize (s.getD 0 0).toNat = c at *
  go_enter Tryz.func79,Tryz.ntmps79
  go_wp2_with (go_at_call 119;refine GL1.out.mono ?_;clear GL1;rintro e w2 ⟨rfl,hc2⟩;subst w2)
  go_ret
  exact ⟨rfl,rfl⟩
 | true =>
  rw [hlt] at GL1
  have hr:Hid (R = if 16 < namL s then 0 else namL s):=hid (by
   rw [← hR.out]
   conv => lhs;rw [hE]
   rw [nmC,hlt,if_pos rfl,← hE])
  have hst:Hid (1 + namL (s.drop 1) = namL s):=hid (by
   conv => rhs;rw [hE]
   rw [namL,hlt,Bool.true_or,if_pos rfl])
  clear hR hE hlt
  generalize (s.getD 0 0).toNat = c at *
  go_enter Tryz.func79,Tryz.ntmps79
  go_wp2_with (go_at_call 119;refine GL1.out.mono ?_;clear GL1;rintro e w2 ⟨rfl,hc2⟩;subst w2)
  go_loopw [3] (fun x wr => ∃ p:Nat,1 ≤ p ∧ p ≤ s.length ∧ x = .int .i64 (p:Int) ∧ Hid (p + namL (s.drop p) = namL s) ∧ wr = w) (fun x _ => s.length - (intOf x).toNat)
  case atStart => exact ⟨1,Nat.le_refl _,by omega,rfl,hst,rfl⟩
  case round =>
   obtain ⟨p,hap,hp,rfl,hI,rfl⟩:=hrel
   by_cases hpt:p < s.length
   · have hptz:(p:Int) < (s.length:Int):=by omega
     have hptn:p < (strT s).size:=by omega
     have key2:=str_get hpt hptn
     have hE2:=hid (drop_get hpt)
     have hcb2:=(s.getD p 0).toNat_lt
     have GL2:=hid (GL.out (s.getD p 0).toNat hcb2 wr)
     have GD2:=hid (GD.out (s.getD p 0).toNat hcb2 wr)
     have hI2:=hI.out
     rw [hE2.out,namL] at hI2
     generalize s.getD p 0 = c2 at *
     cases hl2:letB c2.toNat with
     | true =>
      rw [hl2] at GL2
      have hI3:Hid (p + 1 + namL (s.drop (p + 1)) = namL s):=hid (by rw [hl2,Bool.true_or,if_pos rfl] at hI2;omega)
      clear hI2 hE2 hl2 hI GD2 hst
      generalize c2.toNat = cn at *
      go_wp2_with (go_at_call 119;refine GL2.out.mono ?_;clear GL2;rintro e w2 ⟨rfl,hc2⟩;subst w2)
      go_roundw
      case rel => exact ⟨p + 1,by omega,by omega,by go_num,hI3,by first | rfl | trivial⟩
      case measure => simp [intOf];omega
     | false =>
      rw [hl2] at GL2
      cases hd:digB c2.toNat with
      | true =>
       rw [hd] at GD2
       have hI3:Hid (p + 1 + namL (s.drop (p + 1)) = namL s):=hid (by rw [hd,Bool.or_true,if_pos rfl] at hI2;omega)
       clear hI2 hE2 hl2 hI hd hst
       generalize c2.toNat = cn at *
       go_wp2_with (first
        | (go_at_call 119;refine GL2.out.mono ?_;clear GL2;rintro e w2 ⟨rfl,hc2⟩;subst w2)
        | (go_at_call 120;refine GD2.out.mono ?_;clear GD2;rintro e w2 ⟨rfl,hc2⟩;subst w2))
       go_roundw
       case rel => exact ⟨p + 1,by omega,by omega,by go_num,hI3,by first | rfl | trivial⟩
       case measure => simp [intOf];omega
      | false =>
       rw [hd] at GD2
       have hI3:Hid (p = namL s):=hid (by rw [hl2,hd,Bool.or_false,if_neg (by decide)] at hI2;omega)
       have hr2:Hid (R = if 16 < p then 0 else p):=hid (by rw [hr.out,← hI3.out])
       clear hI2 hE2 hl2 hI hd hr hI3 hst
       generalize c2.toNat = cn at *
       by_cases h16:16 < p
       · have h16z:(16:Int) < (p:Int):=by omega
         go_wp2_with (first
          | (go_at_call 119;refine GL2.out.mono ?_;clear GL2;rintro e w2 ⟨rfl,hc2⟩;subst w2)
          | (go_at_call 120;refine GD2.out.mono ?_;clear GD2;rintro e w2 ⟨rfl,hc2⟩;subst w2))
         go_ret
         exact ⟨by rw [hr2.out,if_pos h16];rfl,rfl⟩
       · have h16z:¬ (16:Int) < (p:Int):=by omega
         go_wp2_with (first
          | (go_at_call 119;refine GL2.out.mono ?_;clear GL2;rintro e w2 ⟨rfl,hc2⟩;subst w2)
          | (go_at_call 120;refine GD2.out.mono ?_;clear GD2;rintro e w2 ⟨rfl,hc2⟩;subst w2))
         go_ret
         exact ⟨by rw [hr2.out,if_neg h16];rfl,rfl⟩
   · have hptz:¬ (p:Int) < (s.length:Int):=by omega
     have hI3:p = namL s:=by have:=hI.out;rw [List.drop_eq_nil_of_le (by omega)] at this;exact this
     have hr2:Hid (R = if 16 < p then 0 else p):=hid (by rw [hr.out,← hI3])
     clear hr hI3 hI hst
     by_cases h16:16 < p
     · have h16z:(16:Int) < (p:Int):=by omega
       go_wp2
       go_ret
       exact ⟨by rw [hr2.out,if_pos h16];rfl,rfl⟩
     · have h16z:¬ (16:Int) < (p:Int):=by omega
       go_wp2
       go_ret
       exact ⟨by rw [hr2.out,if_neg h16];rfl,rfl⟩
def rlI (tk:Bool) (s:Txt) (p:Nat):Nat:=match rgL tk (s.drop p) with
 | none => 0
 | some n => p + n
set_option maxRecDepth 20000 in
set_option maxHeartbeats 8000000 in
theorem ruleP (s:Txt) (w:World) (h0:0 < s.length) (hs:s.length ≤ 1000000):Calls Tryz.prog 80 #[.string (strT s)] w fun e w' => e = .returned (.int .i64 (rlC s:Int)) ∧ w' = w:=by
 have hsz:=strT_size s
 have h0n:0 < (strT s).size:=by omega
 have key:=str_get h0 h0n
 have hE:s = s.getD 0 0 :: s.drop 1:=by have:=drop_get h0;rwa [List.drop_zero] at this
 have hcb:=(s.getD 0 0).toNat_lt
 obtain ⟨R,hR⟩:∃ R,Hid (rlC s = R):=⟨_,hid rfl⟩
 rw [hR.out]
 by_cases h47:(s.getD 0 0).toNat = 47
 · have hr:Hid (R = rlI false s 1):=hid (by
    rw [← hR.out]
    conv => lhs;rw [hE]
    rw [rlC,if_pos h47]
    unfold rlI
    cases e2:rgL false (s.drop 1) with
    | none => rfl
    | some n => show n + 1 = 1 + n;omega)
   clear hR hE
   generalize (s.getD 0 0).toNat = c at *
   subst h47
   go_enter Tryz.func80,Tryz.ntmps80
   go_wp2
   go_loopw [3,4] (fun f x wr => ∃ (p:Nat) (tk:Bool),1 ≤ p ∧ p ≤ s.length ∧ x = .int .i64 (p:Int) ∧ f = .bool tk ∧ Hid (R = rlI tk s p) ∧ wr = w) (fun _ x _ => s.length - (intOf x).toNat)
   case atStart => exact ⟨1,false,Nat.le_refl _,by omega,rfl,rfl,hr,rfl⟩
   case round =>
    obtain ⟨p,tk,hap,hp,rfl,rfl,hI,rfl⟩:=hrel
    by_cases hpt:p < s.length
    · have hptz:(p:Int) < (s.length:Int):=by omega
      have hptn:p < (strT s).size:=by omega
      have key2:=str_get hpt hptn
      have hcb2:=(s.getD p 0).toNat_lt
      have hI2:=hI.out
      unfold rlI at hI2
      rw [drop_get hpt,rgL] at hI2
      generalize s.getD p 0 = c2 at *
      by_cases h10:c2.toNat = 10
      · have hr2:Hid (R = 0):=hid (by rw [if_pos h10] at hI2;exact hI2)
        generalize c2.toNat = cn at *
        subst h10
        clear hI hr hI2
        go_wp2
        go_ret
        exact ⟨by rw [hr2.out];rfl,rfl⟩
      rw [if_neg h10] at hI2
      by_cases h47:c2.toNat = 47 ∧ tk = false
      · have hr2:Hid (R = p + 1):=hid (by rw [if_pos h47] at hI2;exact hI2)
        obtain ⟨h47,rfl⟩:=h47
        generalize c2.toNat = cn at *
        subst h47
        clear hI hr hI2 h10
        go_wp2
        go_ret
        exact ⟨by rw [hr2.out];rfl,rfl⟩
      rw [if_neg h47] at hI2
      have hI3:Hid (R = rlI (c2.toNat == 92 && !tk) s (p + 1)):=hid (by
       rw [hI2]
       unfold rlI
       cases e2:rgL (c2.toNat == 92 && !tk) (s.drop (p + 1)) with
       | none => rfl
       | some n => show p + (n + 1) = p + 1 + n;omega)
      clear hI2
      generalize c2.toNat = cn at *
      have z10:((cn:Int) != 10) = true:=by rw [bne_iff_ne];omega
      have hI4:Hid (∀ tk',tk' = (cn == 92 && !tk) → R = rlI tk' s (p + 1)):=hid (fun tk' h => by rw [h];exact hI3.out)
      clear hI3 hI hr
      cases tk with
      | true =>
       have hI5:=hid (hI4.out false (by cases cn == 92 <;> rfl))
       clear hI4
       by_cases h47':cn = 47
       · subst h47'
         go_wp2
         go_roundw
         case rel => exact ⟨p + 1,false,by omega,by omega,by go_num,rfl,hI5,by first | rfl | trivial⟩
         case measure => simp [intOf];omega
       · have z47:((cn:Int) == 47) = false:=by rw [beq_eq_false_iff_ne];omega
         by_cases h92:cn = 92
         · subst h92
           go_wp2
           go_roundw
           case rel => exact ⟨p + 1,false,by omega,by omega,by go_num,rfl,hI5,by first | rfl | trivial⟩
           case measure => simp [intOf];omega
         · have z92:((cn:Int) == 92) = false:=by rw [beq_eq_false_iff_ne];omega
           go_wp2
           go_roundw
           case rel => exact ⟨p + 1,false,by omega,by omega,by go_num,rfl,hI5,by first | rfl | trivial⟩
           case measure => simp [intOf];omega
      | false =>
       have h47n:¬ cn = 47:=fun h => h47 ⟨h,rfl⟩
       have z47:((cn:Int) == 47) = false:=by rw [beq_eq_false_iff_ne];omega
       by_cases h92:cn = 92
       · have hI5:=hid (hI4.out true (by rw [h92];rfl))
         clear hI4
         subst h92
         go_wp2
         go_roundw
         case rel => exact ⟨p + 1,true,by omega,by omega,by go_num,rfl,hI5,by first | rfl | trivial⟩
         case measure => simp [intOf];omega
       · have hI5:=hid (hI4.out false (by rw [beq_eq_false_iff_ne.2 h92];rfl))
         clear hI4
         have z92:((cn:Int) == 92) = false:=by rw [beq_eq_false_iff_ne];omega
         go_wp2
         go_roundw
         case rel => exact ⟨p + 1,false,by omega,by omega,by go_num,rfl,hI5,by first | rfl | trivial⟩
         case measure => simp [intOf];omega
    · have hptz:¬ (p:Int) < (s.length:Int):=by omega
      have hr20:R = 0:=by have:=hI.out;unfold rlI at this;rw [List.drop_eq_nil_of_le (by omega)] at this;cases tk <;> exact this
      have hr2:=hid hr20
      clear hI hr hr20
      go_wp2
      go_ret
      exact ⟨by rw [hr2.out];rfl,rfl⟩
 · have hr:R = 0:=by
    rw [← hR.out,hE,rlC,if_neg h47]
   subst hr
   generalize (s.getD 0 0).toNat = c at *
   have z5:((c:Int) != 47) = true:=by rw [bne_iff_ne];omega
   clear hE hR
   go_enter Tryz.func80,Tryz.ntmps80
   go_wp2
   go_ret
   exact ⟨rfl,rfl⟩
end Go.Proofs.YtbpnioehmohbcaaGreat
namespace Go.Proofs.YtbpnioehmohbcaaGreat
open Go.RowKit Go.Maps
set_option maxRecDepth 20000 in
theorem cloneC (s:ByteArray) (w:World) (hlim:s.size ≤ 281474976710656) :
 Calls Tryz.prog 60 #[.string s] w fun e w' => e = .returned (.string s) ∧ Below w.heap.size w w':=by
 go_enter Tryz.func60,Tryz.ntmps60
 go_wp2_with (go_at_call 82;refine (Tryz.stringslite_Clone _ _ hlim).mono ?_;rintro e w1 ⟨rfl,hb⟩)
 go_ret
 exact ⟨rfl,hb⟩
end Go.Proofs.YtbpnioehmohbcaaGreat
namespace Go.Proofs.YtbpnioehmohbcaaGreat
open Go.RowKit Go.Maps
abbrev fnV (n:Nat):Value:=.func (.func n) #[] #[]
abbrev cutsV:Value:=.agg #[fnV 78,fnV 79,fnV 80,fnV 81]
set_option maxRecDepth 20000 in
theorem cuttersC (w:World):Calls Tryz.prog 59 #[] w fun e w' => e = .returned cutsV ∧ Below w.heap.size w w':=by
 have hb:=hid (al' w (.cells #[fnV 78,fnV 79,fnV 80,fnV 81] 101))
 go_enter Tryz.func59,Tryz.ntmps59
 go_wp2
 refine bodyPost_ret (v:=cutsV) (by simp [results,Tryz.results59,go_sem]) rfl ⟨rfl,?_⟩
 exact hb.out
set_option maxRecDepth 20000 in
theorem ix4 (w:World):(Instr.index 101 cutsV (.int .i64 0)).run Tryz.prog w = .ok (fnV 78) w ∧ (Instr.index 101 cutsV (.int .i64 1)).run Tryz.prog w = .ok (fnV 79) w ∧ (Instr.index 101 cutsV (.int .i64 2)).run Tryz.prog w = .ok (fnV 80) w ∧ (Instr.index 101 cutsV (.int .i64 3)).run Tryz.prog w = .ok (fnV 81) w:=by
 refine ⟨?_,?_,?_,?_⟩
 all_goals
  simp [Instr.index,run_underlying Tryz.underlying101,asIntOf,go_sem,part,isAgg,run_underlying Tryz.underlying100]
def cutK (u:Txt):Nat × Nat:=if 0 < blkL u then (0,blkL u) else if 0 < nmC u then (1,nmC u) else if 0 < rlC u then (2,rlC u) else if 0 < sgC u then (3,sgC u) else (0,0)
set_option maxRecDepth 20000 in
set_option maxHeartbeats 4000000 in
theorem cutC (u:Txt) (w:World) (h0:0 < u.length) (hs:u.length ≤ 1000000):Calls Tryz.prog 42 #[.string (strT u)] w fun e w' => e = .returned (.tuple #[.int .i64 ((cutK u).1:Int),.int .i64 ((cutK u).2:Int)]) ∧ Below w.heap.size w w':=by
 have GC:=hid (cuttersC w)
 obtain ⟨c,r,hu⟩:∃ c r,u = c :: r:=by
  cases u with
  | nil => exact absurd h0 (by decide)
  | cons c r => exact ⟨c,r,rfl⟩
 have GB:=hid (fun x => blankP c r x (by rw [← hu];exact hs))
 have GS:=hid (fun x => signP c r x (by rw [← hu];exact hs))
 rw [← hu] at GB GS
 have GN:=hid (fun x => nameP u x h0 hs)
 have GR:=hid (fun x => ruleP u x h0 hs)
 obtain ⟨R,hR⟩:∃ R,Hid (cutK u = R):=⟨_,hid rfl⟩
 rw [hR.out]
 have hR:=hid (show cutK u = R from hR.out)
 unfold cutK at hR
 clear hu
 have hI:=hid (fun x => ix4 x)
 generalize blkL u = n0 at *
 generalize nmC u = n1 at *
 generalize rlC u = n2 at *
 generalize sgC u = n3 at *
 generalize strT u = U at *
 go_enter Tryz.func42,Tryz.ntmps42
 go_wp2_with (go_at_call 59;refine GC.out.mono ?_;clear GC;rintro e w2 ⟨rfl,hc2⟩;have hc2:=hid hc2)
 go_loopw [8] (fun x wr => ∃ k:Nat,k ≤ 4 ∧ x = .int .i64 (k:Int) ∧ Hid ((0 < k → n0 = 0) ∧ (1 < k → n1 = 0) ∧ (2 < k → n2 = 0) ∧ (3 < k → n3 = 0)) ∧ Hid (Below w.heap.size w wr)) (fun x _ => 4 - (intOf x).toNat)
 case atStart => exact ⟨0,by omega,rfl,hid (by omega),hc2⟩
 case round =>
  obtain ⟨k,hk,rfl,hZ,hw⟩:=hrel
  have hZ1:=hZ.out
  obtain ⟨i0,i1,i2,i3⟩:=hI.out wr
  rcases (show k = 0 ∨ k = 1 ∨ k = 2 ∨ k = 3 ∨ k = 4 by omega) with h9 | h9 | h9 | h9 | h9
  · subst h9
    have GB1:=hid (GB.out wr)
    by_cases hn:0 < n0
    · have hnz:(0:Int) < (n0:Int):=by omega
      have hr:=hid (hR.out.symm.trans (if_pos hn))
      clear hR hZ hZ1
      go_wp2_with (go_at_call 78;refine GB1.out.mono ?_;clear GB1;rintro e w3 ⟨rfl,hc3⟩;subst w3)
      go_ret2
      exact ⟨by rw [hr.out];rfl,hw.out⟩
    · have hnz:¬ (0:Int) < (n0:Int):=by omega
      have hZ2:Hid ((0 < 1 → n0 = 0) ∧ (1 < 1 → n1 = 0) ∧ (2 < 1 → n2 = 0) ∧ (3 < 1 → n3 = 0)):=hid (by omega)
      clear hZ hZ1
      go_wp2_with (go_at_call 78;refine GB1.out.mono ?_;clear GB1;rintro e w3 ⟨rfl,hc3⟩;subst w3)
      go_roundw
      case rel => exact ⟨1,by omega,by go_num,hZ2,hw⟩
      case measure => simp [intOf]
  · subst h9
    have GB1:=hid (GN.out wr)
    have hp0:n0 = 0:=hZ1.1 (by omega)
    subst hp0
    by_cases hn:0 < n1
    · have hnz:(0:Int) < (n1:Int):=by omega
      have hr:=hid (hR.out.symm.trans ((if_neg (by decide)).trans (if_pos hn)))
      clear hR hZ hZ1
      go_wp2_with (go_at_call 79;refine GB1.out.mono ?_;clear GB1;rintro e w3 ⟨rfl,hc3⟩;subst w3)
      go_ret2
      exact ⟨by rw [hr.out];rfl,hw.out⟩
    · have hnz:¬ (0:Int) < (n1:Int):=by omega
      have hZ2:Hid ((0 < 2 → 0 = 0) ∧ (1 < 2 → n1 = 0) ∧ (2 < 2 → n2 = 0) ∧ (3 < 2 → n3 = 0)):=hid (by omega)
      clear hZ hZ1
      go_wp2_with (go_at_call 79;refine GB1.out.mono ?_;clear GB1;rintro e w3 ⟨rfl,hc3⟩;subst w3)
      go_roundw
      case rel => exact ⟨2,by omega,by go_num,hZ2,hw⟩
      case measure => simp [intOf]
  · subst h9
    have GB1:=hid (GR.out wr)
    have hp0:n0 = 0:=hZ1.1 (by omega)
    subst hp0
    have hp1:n1 = 0:=hZ1.2.1 (by omega)
    subst hp1
    by_cases hn:0 < n2
    · have hnz:(0:Int) < (n2:Int):=by omega
      have hr:=hid (hR.out.symm.trans ((if_neg (by decide)).trans ((if_neg (by decide)).trans (if_pos hn))))
      clear hR hZ hZ1
      go_wp2_with (go_at_call 80;refine GB1.out.mono ?_;clear GB1;rintro e w3 ⟨rfl,hc3⟩;subst w3)
      go_ret2
      exact ⟨by rw [hr.out];rfl,hw.out⟩
    · have hnz:¬ (0:Int) < (n2:Int):=by omega
      have hZ2:Hid ((0 < 3 → 0 = 0) ∧ (1 < 3 → 0 = 0) ∧ (2 < 3 → n2 = 0) ∧ (3 < 3 → n3 = 0)):=hid (by omega)
      clear hZ hZ1
      go_wp2_with (go_at_call 80;refine GB1.out.mono ?_;clear GB1;rintro e w3 ⟨rfl,hc3⟩;subst w3)
      go_roundw
      case rel => exact ⟨3,by omega,by go_num,hZ2,hw⟩
      case measure => simp [intOf]
  · subst h9
    have GB1:=hid (GS.out wr)
    have hp0:n0 = 0:=hZ1.1 (by omega)
    subst hp0
    have hp1:n1 = 0:=hZ1.2.1 (by omega)
    subst hp1
    have hp2:n2 = 0:=hZ1.2.2.1 (by omega)
    subst hp2
    by_cases hn:0 < n3
    · have hnz:(0:Int) < (n3:Int):=by omega
      have hr:=hid (hR.out.symm.trans ((if_neg (by decide)).trans ((if_neg (by decide)).trans ((if_neg (by decide)).trans (if_pos hn)))))
      clear hR hZ hZ1
      go_wp2_with (go_at_call 81;refine GB1.out.mono ?_;clear GB1;rintro e w3 ⟨rfl,hc3⟩;subst w3)
      go_ret2
      exact ⟨by rw [hr.out];rfl,hw.out⟩
    · have hnz:¬ (0:Int) < (n3:Int):=by omega
      have hZ2:Hid ((0 < 4 → 0 = 0) ∧ (1 < 4 → 0 = 0) ∧ (2 < 4 → 0 = 0) ∧ (3 < 4 → n3 = 0)):=hid (by omega)
      clear hZ hZ1
      go_wp2_with (go_at_call 81;refine GB1.out.mono ?_;clear GB1;rintro e w3 ⟨rfl,hc3⟩;subst w3)
      go_roundw
      case rel => exact ⟨4,by omega,by go_num,hZ2,hw⟩
      case measure => simp [intOf]
  · subst h9
    have hr:Hid (R = (0,0)):=hid (by
     have h1:=hZ1.1 (by omega)
     have h2:=hZ1.2.1 (by omega)
     have h3:=hZ1.2.2.1 (by omega)
     have h4:=hZ1.2.2.2 (by omega)
     have h5:=hR.out
     rw [h1,h2,h3,h4] at h5
     exact h5.symm)
    clear hR hZ hZ1
    go_wp2
    go_ret2
    exact ⟨by rw [hr.out];rfl,hw.out⟩
end Go.Proofs.YtbpnioehmohbcaaGreat
namespace Go.Proofs.YtbpnioehmohbcaaGreat
open Go.RowKit Go.Maps
def wdV (x:Wd):List Value:=[.int .i64 (x.1:Int),.int .i64 (x.2.1:Int),.string (strT x.2.2)]
abbrev OwnW (w:World) (B:Nat) (v:Value) (l:List Wd):Prop:=w.ownsRow B 63 3 v l.length (l.flatMap wdV)
set_option maxRecDepth 20000 in
theorem Tryz.infoWd:(Tryz.prog.info? 63).map (fun i => (i.zero,i.size,i.bytes)) = some (some (.agg #[.int .i64 0,.int .i64 0,.string ⟨#[]⟩]),3,32):=by kernel_rfl
structure WdM (W0 w:World) (v:Value) (l:List Wd):Prop where
 own:OwnW w W0.heap.size v l
 low:Below W0.heap.size W0 w
theorem WdM.keep {W0 w u:World} {v:Value} {l:List Wd} (h:WdM W0 w v l) (hu:Below w.heap.size w u):WdM W0 u v l:=⟨own_below h.own hu,bl_step h.low hu⟩
theorem WdM.push {W0 w w':World} {v:Value} {l:List Wd} (h:WdM W0 w v l) {x:Wd} {g cap:Nat}
 (ho:w'.ownsRow W0.heap.size 63 3 (.slice (some ⟨g,0,none⟩) (l.length + 1) cap) (l.length + 1) (l.flatMap wdV ++ wdV x)) (hg:w.grownBy w' v.ownBlock) :
 WdM W0 w' (.slice (some ⟨g,0,none⟩) (l.length + 1) cap) (l ++ [x]):=by
 have hk:=Kept.of_grown hg
 refine ⟨?_,h.low.trans (hk.below (fun k e => (h.own.lt k e).1) h.low.size)⟩
 unfold OwnW
 rw [List.length_append,List.flatMap_append,List.flatMap_singleton]
 exact ho
theorem wdOf_name {T:Txt} {a n:Nat} {c:Nat} (hc:((T.drop a).headD 0).toNat = c) (h1:letB c = true):wdOf T a n = (1,a,(T.drop a).take n):=by
 have h2:c ≠ 47:=fun h => by subst h;cases h1
 unfold wdOf kndW
 rw [hc,h1,if_pos rfl,if_neg h2]
end Go.Proofs.YtbpnioehmohbcaaGreat
