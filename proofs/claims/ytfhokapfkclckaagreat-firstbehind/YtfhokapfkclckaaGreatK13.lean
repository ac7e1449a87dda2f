/- Package word's cutters: sign, blank, name, rule. Package word's cutters: name, rule. A strings.Builder of the call's own: copyCheck, WriteByte, WriteString; strings.Clone. Package word: cutters, cut. -/
import Derived.Test.YtfhokapfkclckaaGreatK12
import Derived.Test.YtfhokapfkclckaaGreatKS
import Derived.Lib.OthersKept
import Derived.Laws.EntriesVeiled
namespace Go.Proofs.YtfhokapfkclckaaGreat
open Go.RowKit Go.Maps
theorem str_head (c:UInt8) (r:Txt) (h':0 < (strT (c :: r)).size):(((strT (c :: r))[0]'h').toNat:Int) = (c.toNat:Int):=by
 have:=str_get (s:=c :: r) (p:=0) (by simp) h'
 exact this
set_option maxRecDepth 20000 in
set_option maxHeartbeats 1000000 in
theorem signP (c:UInt8) (r:Txt) (w:World) (hs:(c :: r).length ≤ 1000000):Calls Tryz.prog 100 #[.string (strT (c :: r))] w fun e w' => e = .returned (.int .i64 (sgC (c :: r):Int)) ∧ w' = w:=by
 have hsz:=strT_size (c :: r)
 have h0:0 < (strT (c :: r)).size:=by rw [hsz,List.length_cons];omega
 have key:=str_head c r h0
 by_cases hsg:c.toNat = 58 ∨ c.toNat = 59 ∨ c.toNat = 124 ∨ c.toNat = 37
 · have e1:sgC (c :: r) = 1:=by rw [sgC,sgnB_yes hsg,if_pos rfl]
   rw [e1]
   clear e1
   generalize strT (c :: r) = S at *
   generalize (c :: r).length = n at *
   generalize c.toNat = cn at *
   rcases hsg with h9 | h9 | h9 | h9
   all_goals
    subst h9
    go_enter Tryz.func100,Tryz.ntmps100
    go_wp2
    go_ret
    exact ⟨rfl,rfl⟩
 · have e1:sgC (c :: r) = 0:=by rw [sgC,sgnB_no hsg,if_neg (by decide)]
   rw [e1]
   clear e1
   generalize strT (c :: r) = S at *
   generalize (c :: r).length = n at *
   generalize c.toNat = cn at *
   have z1:((cn:Int) == 58) = false:=by rw [beq_eq_false_iff_ne];omega
   have z2:((cn:Int) == 59) = false:=by rw [beq_eq_false_iff_ne];omega
   have z3:((cn:Int) == 124) = false:=by rw [beq_eq_false_iff_ne];omega
   have z4:((cn:Int) == 37) = false:=by rw [beq_eq_false_iff_ne];omega
   go_enter Tryz.func100,Tryz.ntmps100
   go_wp2
   go_ret
   exact ⟨rfl,rfl⟩
theorem ix_nl:∀ u:Txt,Lib.indexByte u 10 = if nlL u < u.length then (nlL u:Int) else -1
 | [] => rfl
 | c :: r => by
  rw [Lib.indexByte,nlL,ix_nl r]
  have hle:=nlL_le r
  by_cases h:c.toNat = 10
  · have hc:c = 10:=UInt8.toNat_inj.1 h
    rw [if_pos h,hc,if_pos (by decide),if_pos (by rw [List.length_cons];omega)]
    rfl
  · have hc:(c == 10) = false:=by rw [beq_eq_false_iff_ne];intro h9;rw [h9] at h;exact h rfl
    rw [if_neg h,hc,if_neg (by decide)]
    by_cases h2:nlL r < r.length
    · rw [if_pos h2,if_neg (by rw [beq_iff_eq];omega),if_pos (by rw [List.length_cons];omega)]
      omega
    · rw [if_neg h2,if_pos (by decide),if_neg (by rw [List.length_cons];omega)]
set_option maxRecDepth 20000 in
set_option maxHeartbeats 1000000 in
theorem blankP (c:UInt8) (r:Txt) (w:World) (hs:(c :: r).length ≤ 1000000):Calls Tryz.prog 97 #[.string (strT (c :: r))] w fun e w' => e = .returned (.int .i64 (blkL (c :: r):Int)) ∧ w' = w:=by
 have hsz:=strT_size (c :: r)
 have h0:0 < (strT (c :: r)).size:=by rw [hsz,List.length_cons];omega
 have key:=str_head c r h0
 by_cases hsg:c.toNat = 9 ∨ c.toNat = 10 ∨ c.toNat = 13 ∨ c.toNat = 32
 · have e1:blkL (c :: r) = 1:=by rw [blkL,blnB_yes hsg,if_pos rfl]
   rw [e1]
   clear e1
   generalize strT (c :: r) = S at *
   generalize (c :: r).length = n at *
   generalize c.toNat = cn at *
   rcases hsg with h9 | h9 | h9 | h9
   all_goals
    subst h9
    go_enter Tryz.func97,Tryz.ntmps97
    go_wp2
    go_ret
    exact ⟨rfl,rfl⟩
 have hbn:=blnB_no hsg
 by_cases h35:c.toNat = 35
 · have e1:blkL (c :: r) = 1 + nlL r:=by rw [blkL,hbn,if_neg (by decide),if_pos h35]
   have e2:nlL (c :: r) = 1 + nlL r:=by rw [nlL,if_neg (by omega)]
   have hle:=nlL_le (c :: r)
   rw [e1,← e2]
   have GI:=hid (fun u => ixC (strT (c :: r)) 10 u)
   rw [show (strT (c :: r)).data.toList = c :: r from rfl,show ((10:Int).toNat.toUInt8) = 10 from rfl,ix_nl] at GI
   clear e1 e2 hbn hsg
   generalize nlL (c :: r) = m at *
   generalize strT (c :: r) = S at *
   generalize (c :: r).length = n at *
   generalize c.toNat = cn at *
   subst h35
   by_cases hm:m < n
   · rw [if_pos hm] at GI
     have hmz:(0:Int) ≤ (m:Int):=by omega
     go_enter Tryz.func97,Tryz.ntmps97
     go_wp2_with (go_at_call 120;refine (GI.out w).mono ?_;clear GI;rintro e w1 ⟨rfl,hw⟩;subst w1)
     go_ret
     exact ⟨rfl,rfl⟩
   · rw [if_neg hm] at GI
     have hmn:m = n:=by omega
     subst hmn
     go_enter Tryz.func97,Tryz.ntmps97
     go_wp2_with (go_at_call 120;refine (GI.out w).mono ?_;clear GI;rintro e w1 ⟨rfl,hw⟩;subst w1)
     go_ret
     exact ⟨rfl,rfl⟩
 · have e1:blkL (c :: r) = 0:=by rw [blkL,hbn,if_neg (by decide),if_neg h35]
   rw [e1]
   clear e1 hbn
   generalize strT (c :: r) = S at *
   generalize (c :: r).length = n at *
   generalize c.toNat = cn at *
   have z1:((cn:Int) == 9) = false:=by rw [beq_eq_false_iff_ne];omega
   have z2:((cn:Int) == 10) = false:=by rw [beq_eq_false_iff_ne];omega
   have z3:((cn:Int) == 13) = false:=by rw [beq_eq_false_iff_ne];omega
   have z4:((cn:Int) == 32) = false:=by rw [beq_eq_false_iff_ne];omega
   have z5:((cn:Int) == 35) = false:=by rw [beq_eq_false_iff_ne];omega
   go_enter Tryz.func97,Tryz.ntmps97
   go_wp2
   go_ret
   exact ⟨rfl,rfl⟩
set_option maxRecDepth 20000 in
set_option maxHeartbeats 8000000 in
theorem nameP (s:Txt) (w:World) (h0:0 < s.length) (hs:s.length ≤ 1000000):Calls Tryz.prog 98 #[.string (strT s)] w fun e w' => e = .returned (.int .i64 (nmC s:Int)) ∧ w' = w:=by
 have hsz:=strT_size s
 have h0n:0 < (strT s).size:=by omega
 have key:=str_get h0 h0n
 have hE:s = s.getD 0 0 :: s.drop 1:=by have:=drop_get h0;rwa [List.drop_zero] at this
 have hcb:=(s.getD 0 0).toNat_lt
 have GL:=hid (fun (c:Nat) (hc:c < 256) (u:World) => letterP c u hc)
 have GD:=hid (fun (c:Nat) (hc:c < 256) (u:World) => digitP c u hc)
 obtain ⟨R,hR⟩:∃ R,Hid (nmC s = R):=⟨_,hid rfl⟩
 rw [hR.out]
 have GL1:=hid (GL.out (s.getD 0 0).toNat hcb w)
 cases hlt:letB (s.getD 0 0).toNat with
 | false =>
  rw [hlt] at GL1
  have hr:R = 0:=by rw [← hR.out,hE,nmC,hlt,if_neg (by decide)]
  subst hr
  clear hR hE hlt GL GD
  generalize (s.getD 0 0).toNat = c at *
  go_enter Tryz.func98,Tryz.ntmps98
  go_wp2_with (go_at_call 121;refine GL1.out.mono ?_;clear GL1;rintro e w2 ⟨rfl,hc2⟩;subst w2)
  go_ret
  exact ⟨rfl,rfl⟩
 | true =>
  rw [hlt] at GL1
  have hr:Hid (R = if 16 < namL s then 0 else namL s):=hid (by
   rw [← hR.out]
   conv => lhs;rw [hE]
   rw [nmC,hlt,if_pos rfl,← hE])
  have hst:Hid (1 + namL (s.drop 1) = namL s):=hid (by
   conv => rhs;rw [hE]
   rw [namL,hlt,Bool.true_or,if_pos rfl])
  clear hR hE hlt
  generalize (s.getD 0 0).toNat = c at *
  go_enter Tryz.func98,Tryz.ntmps98
  go_wp2_with (go_at_call 121;refine GL1.out.mono ?_;clear GL1;rintro e w2 ⟨rfl,hc2⟩;subst w2)
  go_loopw [3] (fun x wr => ∃ p:Nat,1 ≤ p ∧ p ≤ s.length ∧ x = .int .i64 (p:Int) ∧ Hid (p + namL (s.drop p) = namL s) ∧ wr = w) (fun x _ => s.length - (intOf x).toNat)
  case atStart => exact ⟨1,Nat.le_refl _,by omega,rfl,hst,rfl⟩
  case round =>
   obtain ⟨p,hap,hp,rfl,hI,rfl⟩:=hrel
   by_cases hpt:p < s.length
   · have hptz:(p:Int) < (s.length:Int):=by omega
     have hptn:p < (strT s).size:=by omega
     have key2:=str_get hpt hptn
     have hE2:=hid (drop_get hpt)
     have hcb2:=(s.getD p 0).toNat_lt
     have GL2:=hid (GL.out (s.getD p 0).toNat hcb2 wr)
     have GD2:=hid (GD.out (s.getD p 0).toNat hcb2 wr)
     have hI2:=hI.out
     rw [hE2.out,namL] at hI2
     generalize s.getD p 0 = c2 at *
     cases hl2:letB c2.toNat with
     | true =>
      rw [hl2] at GL2
      have hI3:Hid (p + 1 + namL (s.drop (p + 1)) = namL s):=hid (by rw [hl2,Bool.true_or,if_pos rfl] at hI2;omega)
      clear hI2 hE2 hl2 hI GD2 hst
      generalize c2.toNat = cn at *
      go_wp2_with (go_at_call 121;refine GL2.out.mono ?_;clear GL2;rintro e w2 ⟨rfl,hc2⟩;subst w2)
      go_roundw
      case rel => exact ⟨p + 1,by omega,by omega,by go_num,hI3,by first | rfl | trivial⟩
      case measure => simp [intOf];omega
     | false =>
      rw [hl2] at GL2
      cases hd:digB c2.toNat with
      | true =>
       rw [hd] at GD2
       have hI3:Hid (p + 1 + namL (s.drop (p + 1)) = namL s):=hid (by rw [hd,Bool.or_true,if_pos rfl] at hI2;omega)
       clear hI2 hE2 hl2 hI hd hst
       generalize c2.toNat = cn at *
       go_wp2_with (first
        | (go_at_call 121;refine GL2.out.mono ?_;clear GL2;rintro e w2 ⟨rfl,hc2⟩;subst w2)
        | (go_at_call 122;refine GD2.out.mono ?_;clear GD2;rintro e w2 ⟨rfl,hc2⟩;subst w2))
       go_roundw
       case rel => exact ⟨p + 1,by omega,by omega,by go_num,hI3,by first | rfl | trivial⟩
       case measure => simp [intOf];omega
      | false =>
       rw [hd] at GD2
       have hI3:Hid (p = namL s):=hid (by rw [hl2,hd,Bool.or_false,if_neg (by decide)] at hI2;omega)
       have hr2:Hid (R = if 16 < p then 0 else p):=hid (by rw [hr.out,← hI3.out])
       clear hI2 hE2 hl2 hI hd hr hI3 hst
       generalize c2.toNat = cn at *
       by_cases h16:16 < p
       · have h16z:(16:Int) < (p:Int):=by omega
         go_wp2_with (first
          | (go_at_call 121;refine GL2.out.mono ?_;clear GL2;rintro e w2 ⟨rfl,hc2⟩;subst w2)
          | (go_at_call 122;refine GD2.out.mono ?_;clear GD2;rintro e w2 ⟨rfl,hc2⟩;subst w2))
         go_ret
         exact ⟨by rw [hr2.out,if_pos h16];rfl,rfl⟩
       · have h16z:¬ (16:Int) < (p:Int):=by omega
         go_wp2_with (first
          | (go_at_call 121;refine GL2.out.mono ?_;clear GL2;rintro e w2 ⟨rfl,hc2⟩;subst w2)
          | (go_at_call 122;refine GD2.out.mono ?_;clear GD2;rintro e w2 ⟨rfl,hc2⟩;subst w2))
         go_ret
         exact ⟨by rw [hr2.out,if_neg h16];rfl,rfl⟩
   · have hptz:¬ (p:Int) < (s.length:Int):=by omega
     have hI3:p = namL s:=by have:=hI.out;rw [List.drop_eq_nil_of_le (by omega)] at this;exact this
     have hr2:Hid (R = if 16 < p then 0 else p):=hid (by rw [hr.out,← hI3])
     clear hr hI3 hI hst
     by_cases h16:16 < p
     · have h16z:(16:Int) < (p:Int):=by omega
       go_wp2
       go_ret
       exact ⟨by rw [hr2.out,if_pos h16];rfl,rfl⟩
     · have h16z:¬ (16:Int) < (p:Int):=by omega
       go_wp2
       go_ret
       exact ⟨by rw [hr2.out,if_neg h16];rfl,rfl⟩
def rlI (tk:Bool) (s:Txt) (p:Nat):Nat:=match rgL tk (s.drop p) with
 | none => 0
 | some n => p + n
set_option maxRecDepth 20000 in
set_option maxHeartbeats 8000000 in
theorem ruleP (s:Txt) (w:World) (h0:0 < s.length) (hs:s.length ≤ 1000000):Calls Tryz.prog 99 #[.string (strT s)] w fun e w' => e = .returned (.int .i64 (rlC s:Int)) ∧ w' = w:=by
 have hsz:=strT_size s
 have h0n:0 < (strT s).size:=by omega
 have key:=str_get h0 h0n
 have hE:s = s.getD 0 0 :: s.drop 1:=by have:=drop_get h0;rwa [List.drop_zero] at this
 have hcb:=(s.getD 0 0).toNat_lt
 obtain ⟨R,hR⟩:∃ R,Hid (rlC s = R):=⟨_,hid rfl⟩
 rw [hR.out]
 by_cases h47:(s.getD 0 0).toNat = 47
 · have hr:Hid (R = rlI false s 1):=hid (by
    rw [← hR.out]
    conv => lhs;rw [hE]
    rw [rlC,if_pos h47]
    unfold rlI
    cases e2:rgL false (s.drop 1) with
    | none => rfl
    | some n => show n + 1 = 1 + n;omega)
   clear hR hE
   generalize (s.getD 0 0).toNat = c at *
   subst h47
   go_enter Tryz.func99,Tryz.ntmps99
   go_wp2
   go_loopw [3,4] (fun f x wr => ∃ (p:Nat) (tk:Bool),1 ≤ p ∧ p ≤ s.length ∧ x = .int .i64 (p:Int) ∧ f = .bool tk ∧ Hid (R = rlI tk s p) ∧ wr = w) (fun _ x _ => s.length - (intOf x).toNat)
   case atStart => exact ⟨1,false,Nat.le_refl _,by omega,rfl,rfl,hr,rfl⟩
   case round =>
    obtain ⟨p,tk,hap,hp,rfl,rfl,hI,rfl⟩:=hrel
    by_cases hpt:p < s.length
    · have hptz:(p:Int) < (s.length:Int):=by omega
      have hptn:p < (strT s).size:=by omega
      have key2:=str_get hpt hptn
      have hcb2:=(s.getD p 0).toNat_lt
      have hI2:=hI.out
      unfold rlI at hI2
      rw [drop_get hpt,rgL] at hI2
      generalize s.getD p 0 = c2 at *
      by_cases h10:c2.toNat = 10
      · have hr2:Hid (R = 0):=hid (by rw [if_pos h10] at hI2;exact hI2)
        generalize c2.toNat = cn at *
        subst h10
        clear hI hr hI2
        go_wp2
        go_ret
        exact ⟨by rw [hr2.out];rfl,rfl⟩
      rw [if_neg h10] at hI2
      by_cases h47:c2.toNat = 47 ∧ tk = false
      · have hr2:Hid (R = p + 1):=hid (by rw [if_pos h47] at hI2;exact hI2)
        obtain ⟨h47,rfl⟩:=h47
        generalize c2.toNat = cn at *
        subst h47
        clear hI hr hI2 h10
        go_wp2
        go_ret
        exact ⟨by rw [hr2.out];rfl,rfl⟩
      rw [if_neg h47] at hI2
      have hI3:Hid (R = rlI (c2.toNat == 92 && !tk) s (p + 1)):=hid (by
       rw [hI2]
       unfold rlI
       cases e2:rgL (c2.toNat == 92 && !tk) (s.drop (p + 1)) with
       | none => rfl
       | some n => show p + (n + 1) = p + 1 + n;omega)
      clear hI2
      generalize c2.toNat = cn at *
      have z10:((cn:Int) != 10) = true:=by rw [bne_iff_ne];omega
      have hI4:Hid (∀ tk',tk' = (cn == 92 && !tk) → R = rlI tk' s (p + 1)):=hid (fun tk' h => by rw [h];exact hI3.out)
      clear hI3 hI hr
      cases tk with
      | true =>
       have hI5:=hid (hI4.out false (by cases cn == 92 <;> rfl))
       clear hI4
       by_cases h47':cn = 47
       · subst h47'
         go_wp2
         go_roundw
         case rel => exact ⟨p + 1,false,by omega,by omega,by go_num,rfl,hI5,by first | rfl | trivial⟩
         case measure => simp [intOf];omega
       · have z47:((cn:Int) == 47) = false:=by rw [beq_eq_false_iff_ne];omega
         by_cases h92:cn = 92
         · subst h92
           go_wp2
           go_roundw
           case rel => exact ⟨p + 1,false,by omega,by omega,by go_num,rfl,hI5,by first | rfl | trivial⟩
           case measure => simp [intOf];omega
         · have z92:((cn:Int) == 92) = false:=by rw [beq_eq_false_iff_ne];omega
           go_wp2
           go_roundw
           case rel => exact ⟨p + 1,false,by omega,by omega,by go_num,rfl,hI5,by first | rfl | trivial⟩
           case measure => simp [intOf];omega
      | false =>
       have h47n:¬ cn = 47:=fun h => h47 ⟨h,rfl⟩
       have z47:((cn:Int) == 47) = false:=by rw [beq_eq_false_iff_ne];omega
       by_cases h92:cn = 92
       · have hI5:=hid (hI4.out true (by rw [h92];rfl))
         clear hI4
         subst h92
         go_wp2
         go_roundw
         case rel => exact ⟨p + 1,true,by omega,by omega,by go_num,rfl,hI5,by first | rfl | trivial⟩
         case measure => simp [intOf];omega
       · have hI5:=hid (hI4.out false (by rw [beq_eq_false_iff_ne.2 h92];rfl))
         clear hI4
         have z92:((cn:Int) == 92) = false:=by rw [beq_eq_false_iff_ne];omega
         go_wp2
         go_roundw
         case rel => exact ⟨p + 1,false,by omega,by omega,by go_num,rfl,hI5,by first | rfl | trivial⟩
         case measure => simp [intOf];omega
    · have hptz:¬ (p:Int) < (s.length:Int):=by omega
      have hr20:R = 0:=by have:=hI.out;unfold rlI at this;rw [List.drop_eq_nil_of_le (by omega)] at this;cases tk <;> exact this
      have hr2:=hid hr20
      clear hI hr hr20
      go_wp2
      go_ret
      exact ⟨by rw [hr2.out];rfl,rfl⟩
 · have hr:R = 0:=by
    rw [← hR.out,hE,rlC,if_neg h47]
   subst hr
   generalize (s.getD 0 0).toNat = c at *
   have z5:((c:Int) != 47) = true:=by rw [bne_iff_ne];omega
   clear hE hR
   go_enter Tryz.func99,Tryz.ntmps99
   go_wp2
   go_ret
   exact ⟨rfl,rfl⟩
set_option maxRecDepth 20000 in
theorem cloneC (s:ByteArray) (w:World) (hlim:s.size ≤ 281474976710656) :
 Calls Tryz.prog 81 #[.string s] w fun e w' => e = .returned (.string s) ∧ Below w.heap.size w w':=by
 go_enter Tryz.func81,Tryz.ntmps81
 go_wp2_with (go_at_call 101;refine (Tryz.stringslite_Clone _ _ hlim).mono ?_;rintro e w1 ⟨rfl,hb⟩)
 go_ret
 exact ⟨rfl,hb⟩
abbrev fnV (n:Nat):Value:=.func (.func n) #[] #[]
abbrev cutsV:Value:=.agg #[fnV 97,fnV 98,fnV 99,fnV 100]
set_option maxRecDepth 20000 in
theorem cuttersC (w:World):Calls Tryz.prog 80 #[] w fun e w' => e = .returned cutsV ∧ Below w.heap.size w w':=by
 have hb:=hid (al' w (.cells #[fnV 97,fnV 98,fnV 99,fnV 100] 124))
 go_enter Tryz.func80,Tryz.ntmps80
 go_wp2
 refine bodyPost_ret (v:=cutsV) (by simp [results,Tryz.results80,go_sem]) rfl ⟨rfl,?_⟩
 exact hb.out
set_option maxRecDepth 20000 in
theorem ix4 (w:World):(Instr.index 124 cutsV (.int .i64 0)).run Tryz.prog w = .ok (fnV 97) w ∧ (Instr.index 124 cutsV (.int .i64 1)).run Tryz.prog w = .ok (fnV 98) w ∧ (Instr.index 124 cutsV (.int .i64 2)).run Tryz.prog w = .ok (fnV 99) w ∧ (Instr.index 124 cutsV (.int .i64 3)).run Tryz.prog w = .ok (fnV 100) w:=by
 refine ⟨?_,?_,?_,?_⟩
 all_goals
  simp [Instr.index,run_underlying Tryz.underlying124,asIntOf,go_sem,part,isAgg,run_underlying Tryz.underlying123]
def cutK (u:Txt):Nat × Nat:=if 0 < blkL u then (0,blkL u) else if 0 < nmC u then (1,nmC u) else if 0 < rlC u then (2,rlC u) else if 0 < sgC u then (3,sgC u) else (0,0)
set_option maxRecDepth 20000 in
set_option maxHeartbeats 4000000 in
theorem cutC (u:Txt) (w:World) (h0:0 < u.length) (hs:u.length ≤ 1000000):Calls Tryz.prog 60 #[.string (strT u)] w fun e w' => e = .returned (.tuple #[.int .i64 ((cutK u).1:Int),.int .i64 ((cutK u).2:Int)]) ∧ Below w.heap.size w w':=by
 have GC:=hid (cuttersC w)
 obtain ⟨c,r,hu⟩:∃ c r,u = c :: r:=by
  cases u with
  | nil => exact absurd h0 (by decide)
  | cons c r => exact ⟨c,r,rfl⟩
 have GB:=hid (fun x => blankP c r x (by rw [← hu];exact hs))
 have GS:=hid (fun x => signP c r x (by rw [← hu];exact hs))
 rw [← hu] at GB GS
 have GN:=hid (fun x => nameP u x h0 hs)
 have GR:=hid (fun x => ruleP u x h0 hs)
 obtain ⟨R,hR⟩:∃ R,Hid (cutK u = R):=⟨_,hid rfl⟩
 rw [hR.out]
 have hR:=hid (show cutK u = R from hR.out)
 unfold cutK at hR
 clear hu
 have hI:=hid (fun x => ix4 x)
 generalize blkL u = n0 at *
 generalize nmC u = n1 at *
 generalize rlC u = n2 at *
 generalize sgC u = n3 at *
 generalize strT u = U at *
 go_enter Tryz.func60,Tryz.ntmps60
 go_wp2_with (go_at_call 80;refine GC.out.mono ?_;clear GC;rintro e w2 ⟨rfl,hc2⟩;have hc2:=hid hc2)
 go_loopw [8] (fun x wr => ∃ k:Nat,k ≤ 4 ∧ x = .int .i64 (k:Int) ∧ Hid ((0 < k → n0 = 0) ∧ (1 < k → n1 = 0) ∧ (2 < k → n2 = 0) ∧ (3 < k → n3 = 0)) ∧ Hid (Below w.heap.size w wr)) (fun x _ => 4 - (intOf x).toNat)
 case atStart => exact ⟨0,by omega,rfl,hid (by omega),hc2⟩
 case round =>
  obtain ⟨k,hk,rfl,hZ,hw⟩:=hrel
  have hZ1:=hZ.out
  obtain ⟨i0,i1,i2,i3⟩:=hI.out wr
  rcases (show k = 0 ∨ k = 1 ∨ k = 2 ∨ k = 3 ∨ k = 4 by omega) with h9 | h9 | h9 | h9 | h9
  · subst h9
    have GB1:=hid (GB.out wr)
    by_cases hn:0 < n0
    · have hnz:(0:Int) < (n0:Int):=by omega
      have hr:=hid (hR.out.symm.trans (if_pos hn))
      clear hR hZ hZ1
      go_wp2_with (go_at_call 97;refine GB1.out.mono ?_;clear GB1;rintro e w3 ⟨rfl,hc3⟩;subst w3)
      go_ret2
      exact ⟨by rw [hr.out];rfl,hw.out⟩
    · have hnz:¬ (0:Int) < (n0:Int):=by omega
      have hZ2:Hid ((0 < 1 → n0 = 0) ∧ (1 < 1 → n1 = 0) ∧ (2 < 1 → n2 = 0) ∧ (3 < 1 → n3 = 0)):=hid (by omega)
      clear hZ hZ1
      go_wp2_with (go_at_call 97;refine GB1.out.mono ?_;clear GB1;rintro e w3 ⟨rfl,hc3⟩;subst w3)
      go_roundw
      case rel => exact ⟨1,by omega,by go_num,hZ2,hw⟩
      case measure => simp [intOf]
  · subst h9
    have GB1:=hid (GN.out wr)
    have hp0:n0 = 0:=hZ1.1 (by omega)
    subst hp0
    by_cases hn:0 < n1
    · have hnz:(0:Int) < (n1:Int):=by omega
      have hr:=hid (hR.out.symm.trans ((if_neg (by decide)).trans (if_pos hn)))
      clear hR hZ hZ1
      go_wp2_with (go_at_call 98;refine GB1.out.mono ?_;clear GB1;rintro e w3 ⟨rfl,hc3⟩;subst w3)
      go_ret2
      exact ⟨by rw [hr.out];rfl,hw.out⟩
    · have hnz:¬ (0:Int) < (n1:Int):=by omega
      have hZ2:Hid ((0 < 2 → 0 = 0) ∧ (1 < 2 → n1 = 0) ∧ (2 < 2 → n2 = 0) ∧ (3 < 2 → n3 = 0)):=hid (by omega)
      clear hZ hZ1
      go_wp2_with (go_at_call 98;refine GB1.out.mono ?_;clear GB1;rintro e w3 ⟨rfl,hc3⟩;subst w3)
      go_roundw
      case rel => exact ⟨2,by omega,by go_num,hZ2,hw⟩
      case measure => simp [intOf]
  · subst h9
    have GB1:=hid (GR.out wr)
    have hp0:n0 = 0:=hZ1.1 (by omega)
    subst hp0
    have hp1:n1 = 0:=hZ1.2.1 (by omega)
    subst hp1
    by_cases hn:0 < n2
    · have hnz:(0:Int) < (n2:Int):=by omega
      have hr:=hid (hR.out.symm.trans ((if_neg (by decide)).trans ((if_neg (by decide)).trans (if_pos hn))))
      clear hR hZ hZ1
      go_wp2_with (go_at_call 99;refine GB1.out.mono ?_;clear GB1;rintro e w3 ⟨rfl,hc3⟩;subst w3)
      go_ret2
      exact ⟨by rw [hr.out];rfl,hw.out⟩
    · have hnz:¬ (0:Int) < (n2:Int):=by omega
      have hZ2:Hid ((0 < 3 → 0 = 0) ∧ (1 < 3 → 0 = 0) ∧ (2 < 3 → n2 = 0) ∧ (3 < 3 → n3 = 0)):=hid (by omega)
      clear hZ hZ1
      go_wp2_with (go_at_call 99;refine GB1.out.mono ?_;clear GB1;rintro e w3 ⟨rfl,hc3⟩;subst w3)
      go_roundw
      case rel => exact ⟨3,by omega,by go_num,hZ2,hw⟩
      case measure => simp [intOf]
  · subst h9
    have GB1:=hid (GS.out wr)
    have hp0:n0 = 0:=hZ1.1 (by omega)
    subst hp0
    have hp1:n1 = 0:=hZ1.2.1 (by omega)
    subst hp1
    have hp2:n2 = 0:=hZ1.2.2.1 (by omega)
    subst hp2
    by_cases hn:0 < n3
    · have hnz:(0:Int) < (n3:Int):=by omega
      have hr:=hid (hR.out.symm.trans ((if_neg (by decide)).trans ((if_neg (by decide)).trans ((if_neg (by decide)).trans (if_pos hn)))))
      clear hR hZ hZ1
      go_wp2_with (go_at_call 100;refine GB1.out.mono ?_;clear GB1;rintro e w3 ⟨rfl,hc3⟩;subst w3)
      go_ret2
      exact ⟨by rw [hr.out];rfl,hw.out⟩
    · have hnz:¬ (0:Int) < (n3:Int):=by omega
      have hZ2:Hid ((0 < 4 → 0 = 0) ∧ (1 < 4 → 0 = 0) ∧ (2 < 4 → 0 = 0) ∧ (3 < 4 → n3 = 0)):=hid (by omega)
      clear hZ hZ1
      go_wp2_with (go_at_call 100;refine GB1.out.mono ?_;clear GB1;rintro e w3 ⟨rfl,hc3⟩;subst w3)
      go_roundw
      case rel => exact ⟨4,by omega,by go_num,hZ2,hw⟩
      case measure => simp [intOf]
  · subst h9
    have hr:Hid (R = (0,0)):=hid (by
     have h1:=hZ1.1 (by omega)
     have h2:=hZ1.2.1 (by omega)
     have h3:=hZ1.2.2.1 (by omega)
     have h4:=hZ1.2.2.2 (by omega)
     have h5:=hR.out
     rw [h1,h2,h3,h4] at h5
     exact h5.symm)
    clear hR hZ hZ1
    go_wp2
    go_ret2
    exact ⟨by rw [hr.out];rfl,hw.out⟩
end Go.Proofs.YtfhokapfkclckaaGreat
