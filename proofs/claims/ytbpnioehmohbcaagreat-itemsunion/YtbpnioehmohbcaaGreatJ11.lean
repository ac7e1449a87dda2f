/- topiaryref11.Letter, Skip, End. topiaryref11.End: the place behind the word at a place. Package word's leaves: letter, digit, sign, blank, name, rule. Package word's cutters: sign, blank, name, rule. -/
import Derived.Test.YtbpnioehmohbcaaGreatJ10
namespace Go.Proofs.YtbpnioehmohbcaaGreat
open Go.RowKit Go.Maps
theorem letB_yes {b:Nat} (h:b = 95 ∨ (65 ≤ b ∧ b ≤ 90) ∨ (97 ≤ b ∧ b ≤ 122)):letB b = true:=by
 unfold letB
 rw [Bool.or_eq_true,Bool.or_eq_true,Bool.and_eq_true,Bool.and_eq_true,beq_iff_eq,decide_eq_true_iff,decide_eq_true_iff,decide_eq_true_iff,decide_eq_true_iff]
 omega
theorem letB_no {b:Nat} (h:¬ (b = 95 ∨ (65 ≤ b ∧ b ≤ 90) ∨ (97 ≤ b ∧ b ≤ 122))):letB b = false:=by
 cases e:letB b with
 | false => rfl
 | true =>
  exfalso
  unfold letB at e
  rw [Bool.or_eq_true,Bool.or_eq_true,Bool.and_eq_true,Bool.and_eq_true,beq_iff_eq,decide_eq_true_iff,decide_eq_true_iff,decide_eq_true_iff,decide_eq_true_iff] at e
  omega
theorem drop_get {s:Txt} {p:Nat} (h:p < s.length):s.drop p = s.getD p 0 :: s.drop (p + 1):=by
 rw [List.drop_eq_getElem_cons h,List.getD_eq_getElem?_getD,List.getElem?_eq_getElem h]
 rfl
theorem str_get {s:Txt} {p:Nat} (h:p < s.length) (h':p < (strT s).size):(((strT s)[p]'h').toNat:Int) = ((s.getD p 0).toNat:Int):=by
 have hgd:s.getD p 0 = s[p]'h:=by rw [List.getD_eq_getElem?_getD,List.getElem?_eq_getElem h];rfl
 rw [hgd]
 exact congrArg (fun c:UInt8 => (c.toNat:Int)) (strT_at s p h' h)
theorem blnB_yes {c:Nat} (h:c = 9 ∨ c = 10 ∨ c = 13 ∨ c = 32):blnB c = true:=by
 rcases h with rfl | rfl | rfl | rfl <;> decide
theorem blnB_no {c:Nat} (h:¬ (c = 9 ∨ c = 10 ∨ c = 13 ∨ c = 32)):blnB c = false:=by
 cases e:blnB c with
 | false => rfl
 | true =>
  exfalso
  unfold blnB at e
  rw [Bool.or_eq_true,Bool.or_eq_true,Bool.or_eq_true,beq_iff_eq,beq_iff_eq,beq_iff_eq,beq_iff_eq] at e
  omega
end Go.Proofs.YtbpnioehmohbcaaGreat
namespace Go.Proofs.YtbpnioehmohbcaaGreat
open Go.RowKit Go.Maps
theorem sgnB_yes {c:Nat} (h:c = 58 ∨ c = 59 ∨ c = 124 ∨ c = 37):sgnB c = true:=by
 rcases h with rfl | rfl | rfl | rfl <;> decide
theorem sgnB_no {c:Nat} (h:¬ (c = 58 ∨ c = 59 ∨ c = 124 ∨ c = 37)):sgnB c = false:=by
 cases e:sgnB c with
 | false => rfl
 | true =>
  exfalso
  unfold sgnB at e
  rw [Bool.or_eq_true,Bool.or_eq_true,Bool.or_eq_true,beq_iff_eq,beq_iff_eq,beq_iff_eq,beq_iff_eq] at e
  omega
theorem digB_iff (c:Nat):digB c = true ↔ 48 ≤ c ∧ c ≤ 57:=by
 unfold digB
 rw [Bool.and_eq_true,decide_eq_true_iff,decide_eq_true_iff]
end Go.Proofs.YtbpnioehmohbcaaGreat
namespace Go.Proofs.YtbpnioehmohbcaaGreat
open Go.RowKit Go.Maps
def nlL:Txt → Nat
 | [] => 0
 | c :: r => if c.toNat = 10 then 0 else 1 + nlL r
def blkL:Txt → Nat
 | [] => 0
 | c :: r => if blnB c.toNat then 1 else if c.toNat = 35 then 1 + nlL r else 0
def nmC:Txt → Nat
 | [] => 0
 | c :: r => if letB c.toNat then (if 16 < namL (c :: r) then 0 else namL (c :: r)) else 0
def rlC:Txt → Nat
 | [] => 0
 | c :: r => if c.toNat = 47 then (match rgL false r with | none => 0 | some n => n + 1) else 0
def sgC:Txt → Nat
 | [] => 0
 | c :: _ => if sgnB c.toNat then 1 else 0
theorem nlL_le:∀ u:Txt,nlL u ≤ u.length
 | [] => Nat.zero_le _
 | c :: r => by
  have:=nlL_le r
  rw [nlL,List.length_cons]
  split <;> omega
theorem skL_true:∀ r:Txt,skL true r = nlL r + skL false (r.drop (nlL r))
 | [] => rfl
 | c :: r => by
  rw [skL,nlL]
  by_cases h:c.toNat = 10
  · rw [if_pos h,List.drop_zero,skL,h]
    rw [if_neg (by decide),if_pos (by decide)]
    show 1 + skL false r = 0 + (1 + skL false r)
    omega
  · rw [if_neg h,show (c.toNat != 10) = true from bne_iff_ne.2 h,skL_true r,show 1 + nlL r = nlL r + 1 by omega,List.drop_succ_cons]
    omega
theorem skL_blk:∀ u:Txt,skL false u = blkL u + skL false (u.drop (blkL u))
 | [] => rfl
 | c :: r => by
  rw [blkL]
  by_cases h:blnB c.toNat = true
  · rw [if_pos h,skL,h,if_pos rfl,if_neg (by intro h9;rw [h9] at h;cases h)]
    rfl
  · have hf:blnB c.toNat = false:=by cases e:blnB c.toNat with | false => rfl | true => exact absurd e h
    by_cases h35:c.toNat = 35
    · rw [if_neg h,if_pos h35,skL,if_pos h35,skL_true r,show 1 + nlL r = nlL r + 1 by omega,List.drop_succ_cons]
      omega
    · rw [if_neg h,if_neg h35,Nat.zero_add,List.drop_zero]
theorem skL_none {u:Txt} (h:blkL u = 0):skL false u = 0:=by
 cases u with
 | nil => rfl
 | cons c r =>
  rw [blkL] at h
  rw [skL]
  by_cases h1:blnB c.toNat = true
  · rw [if_pos h1] at h;omega
  · rw [if_neg h1] at h
    by_cases h35:c.toNat = 35
    · rw [if_pos h35] at h;omega
    · rw [if_neg h35,if_neg h1]
theorem blkL_le (u:Txt):blkL u ≤ u.length:=by
 cases u with
 | nil => exact Nat.zero_le _
 | cons c r =>
  have:=nlL_le r
  rw [blkL,List.length_cons]
  split
  · omega
  · split <;> omega
set_option maxRecDepth 20000 in
theorem letterP (b:Nat) (w:World) (hb:b < 256):Calls Tryz.prog 119 #[.int .u8 (b:Int)] w fun e w' => e = .returned (.bool (letB b)) ∧ w' = w:=by
 rcases (show b = 95 ∨ (65 ≤ b ∧ b ≤ 90) ∨ (97 ≤ b ∧ b ≤ 122) ∨ b < 65 ∨ (90 < b ∧ b < 97 ∧ b ≠ 95) ∨ 122 < b by omega) with h | h | h | h | h | h
 · rw [letB_yes (by omega)]
   subst h
   go_enter Tryz.func119,Tryz.ntmps119
   go_wp2
   go_ret
   exact ⟨by simp,rfl⟩
 · rw [letB_yes (by omega)]
   have h0:¬ (97:Int) ≤ (b:Int):=by omega
   have h2:(65:Int) ≤ (b:Int):=by omega
   have h3:(b:Int) ≤ 90:=by omega
   go_enter Tryz.func119,Tryz.ntmps119
   go_wp2
   go_ret
   exact ⟨by simp,rfl⟩
 · rw [letB_yes (by omega)]
   have h4:(97:Int) ≤ (b:Int):=by omega
   have h5:(b:Int) ≤ 122:=by omega
   go_enter Tryz.func119,Tryz.ntmps119
   go_wp2
   go_ret
   exact ⟨by simp,rfl⟩
 · rw [letB_no (by omega)]
   have h1:((b:Int) == 95) = false:=by rw [beq_eq_false_iff_ne];omega
   have h2:¬ (65:Int) ≤ (b:Int):=by omega
   have h4:¬ (97:Int) ≤ (b:Int):=by omega
   go_enter Tryz.func119,Tryz.ntmps119
   go_wp2
   go_ret
   exact ⟨by simp,rfl⟩
 · rw [letB_no (by omega)]
   have h1:((b:Int) == 95) = false:=by rw [beq_eq_false_iff_ne];omega
   have h2:(65:Int) ≤ (b:Int):=by omega
   have h3:¬ (b:Int) ≤ 90:=by omega
   have h4:¬ (97:Int) ≤ (b:Int):=by omega
   go_enter Tryz.func119,Tryz.ntmps119
   go_wp2
   go_ret
   exact ⟨by simp,rfl⟩
 · rw [letB_no (by omega)]
   have h1:((b:Int) == 95) = false:=by rw [beq_eq_false_iff_ne];omega
   have h2:(65:Int) ≤ (b:Int):=by omega
   have h3:¬ (b:Int) ≤ 90:=by omega
   have h4:(97:Int) ≤ (b:Int):=by omega
   have h5:¬ (b:Int) ≤ 122:=by omega
   go_enter Tryz.func119,Tryz.ntmps119
   go_wp2
   go_ret
   exact ⟨by simp,rfl⟩
set_option maxRecDepth 20000 in
theorem digitP (b:Nat) (w:World) (hb:b < 256):Calls Tryz.prog 120 #[.int .u8 (b:Int)] w fun e w' => e = .returned (.bool (digB b)) ∧ w' = w:=by
 rcases (show b < 48 ∨ (48 ≤ b ∧ b ≤ 57) ∨ 57 < b by omega) with h | h | h
 · have e1:digB b = false:=by unfold digB;rw [decide_eq_false (by omega)];rfl
   rw [e1]
   have h1:¬ (48:Int) ≤ (b:Int):=by omega
   go_enter Tryz.func120,Tryz.ntmps120
   go_wp2
   go_ret
   exact ⟨by simp,rfl⟩
 · rw [(digB_iff b).2 h]
   have h1:(48:Int) ≤ (b:Int):=by omega
   have h2:(b:Int) ≤ 57:=by omega
   go_enter Tryz.func120,Tryz.ntmps120
   go_wp2
   go_ret
   exact ⟨by simp,rfl⟩
 · have e1:digB b = false:=by unfold digB;rw [decide_eq_false (show ¬ b ≤ 57 by omega),Bool.and_false]
   rw [e1]
   have h1:(48:Int) ≤ (b:Int):=by omega
   have h2:¬ (b:Int) ≤ 57:=by omega
   go_enter Tryz.func120,Tryz.ntmps120
   go_wp2
   go_ret
   exact ⟨by simp,rfl⟩
set_option maxRecDepth 20000 in
theorem ixExt (S:ByteArray) (z:Int) (w:World):(callFunc 143 #[.string S,.int .u8 z]).run Tryz.prog w = .ok (.value (.int .i64 (Lib.indexByte S.data.toList z.toNat.toUInt8))) w:=by
 rw [run_callFunc_indexByte Tryz.func143 (by kernel_rfl) (by kernel_rfl) (by kernel_rfl) (by kernel_rfl),Lib.run_indexByteString]
 rfl
set_option maxRecDepth 20000 in
theorem ixLite (S:ByteArray) (z:Int) (w:World):Calls Tryz.prog 135 #[.string S,.int .u8 z] w fun e w' => e = .returned (.int .i64 (Lib.indexByte S.data.toList z.toNat.toUInt8)) ∧ w' = w:=by
 have hx:=ixExt S z
 go_enter Tryz.func135,Tryz.ntmps135
 go_wp2
 go_ret
 exact ⟨rfl,rfl⟩
set_option maxRecDepth 20000 in
theorem ixC (S:ByteArray) (z:Int) (w:World):Calls Tryz.prog 118 #[.string S,.int .u8 z] w fun e w' => e = .returned (.int .i64 (Lib.indexByte S.data.toList z.toNat.toUInt8)) ∧ w' = w:=by
 have G:=hid (ixLite S z)
 go_enter Tryz.func118,Tryz.ntmps118
 go_wp2_with (go_at_call 135;refine (G.out _).mono ?_;rintro e w1 ⟨rfl,hw⟩;subst w1)
 go_ret
 exact ⟨rfl,rfl⟩
end Go.Proofs.YtbpnioehmohbcaaGreat
namespace Go.Proofs.YtbpnioehmohbcaaGreat
open Go.RowKit Go.Maps
theorem str_head (c:UInt8) (r:Txt) (h':0 < (strT (c :: r)).size):(((strT (c :: r))[0]'h').toNat:Int) = (c.toNat:Int):=by
 have:=str_get (s:=c :: r) (p:=0) (by simp) h'
 exact this
set_option maxRecDepth 20000 in
set_option maxHeartbeats 1000000 in
theorem signP (c:UInt8) (r:Txt) (w:World) (hs:(c :: r).length ≤ 1000000):Calls Tryz.prog 81 #[.string (strT (c :: r))] w fun e w' => e = .returned (.int .i64 (sgC (c :: r):Int)) ∧ w' = w:=by
 have hsz:=strT_size (c :: r)
 have h0:0 < (strT (c :: r)).size:=by rw [hsz,List.length_cons];omega
 have key:=str_head c r h0
 by_cases hsg:c.toNat = 58 ∨ c.toNat = 59 ∨ c.toNat = 124 ∨ c.toNat = 37
 · have e1:sgC (c :: r) = 1:=by rw [sgC,sgnB_yes hsg,if_pos rfl]
   rw [e1]
   clear e1
   generalize strT (c :: r) = S at *
   generalize (c :: r).length = n at *
   generalize c.toNat = cn at *
   rcases hsg with h9 | h9 | h9 | h9
   all_goals
    subst h9
    go_enter Tryz.func81,Tryz.ntmps81
    go_wp2
    go_ret
    exact ⟨rfl,rfl⟩
 · have e1:sgC (c :: r) = 0:=by rw [sgC,sgnB_no hsg,if_neg (by decide)]
   rw [e1]
   clear e1
   generalize strT (c :: r) = S at *
   generalize (c :: r).length = n at *
   generalize c.toNat = cn at *
   have z1:((cn:Int) == 58) = false:=by rw [beq_eq_false_iff_ne];omega
   have z2:((cn:Int) == 59) = false:=by rw [beq_eq_false_iff_ne];omega
   have z3:((cn:Int) == 124) = false:=by rw [beq_eq_false_iff_ne];omega
   have z4:((cn:Int) == 37) = false:=by rw [beq_eq_false_iff_ne];omega
   go_enter Tryz.func81,Tryz.ntmps81
   go_wp2
   go_ret
   exact ⟨rfl,rfl⟩
theorem ix_nl:∀ u:Txt,Lib.indexByte u 10 = if nlL u < u.length then (nlL u:Int) else -1
 | [] => rfl
 | c :: r => by
  rw [Lib.indexByte,nlL,ix_nl r]
  have hle:=nlL_le r
  by_cases h:c.toNat = 10
  · have hc:c = 10:=UInt8.toNat_inj.1 h
    rw [if_pos h,hc,if_pos (by decide),if_pos (by rw [List.length_cons];omega)]
    rfl
  · have hc:(c == 10) = false:=by rw [beq_eq_false_iff_ne];intro h9;rw [h9] at h;exact h rfl
    rw [if_neg h,hc,if_neg (by decide)]
    by_cases h2:nlL r < r.length
    · rw [if_pos h2,if_neg (by rw [beq_iff_eq];omega),if_pos (by rw [List.length_cons];omega)]
      omega
    · rw [if_neg h2,if_pos (by decide),if_neg (by rw [List.length_cons];omega)]
set_option maxRecDepth 20000 in
set_option maxHeartbeats 1000000 in
theorem blankP (c:UInt8) (r:Txt) (w:World) (hs:(c :: r).length ≤ 1000000):Calls Tryz.prog 78 #[.string (strT (c :: r))] w fun e w' => e = .returned (.int .i64 (blkL (c :: r):Int)) ∧ w' = w:=by
 have hsz:=strT_size (c :: r)
 have h0:0 < (strT (c :: r)).size:=by rw [hsz,List.length_cons];omega
 have key:=str_head c r h0
 by_cases hsg:c.toNat = 9 ∨ c.toNat = 10 ∨ c.toNat = 13 ∨ c.toNat = 32
 · have e1:blkL (c :: r) = 1:=by rw [blkL,blnB_yes hsg,if_pos rfl]
   rw [e1]
   clear e1
   generalize strT (c :: r) = S at *
   generalize (c :: r).length = n at *
   generalize c.toNat = cn at *
   rcases hsg with h9 | h9 | h9 | h9
   all_goals
    subst h9
    go_enter Tryz.func78,Tryz.ntmps78
    go_wp2
    go_ret
    exact ⟨rfl,rfl⟩
 have hbn:=blnB_no hsg
 by_cases h35:c.toNat = 35
 · have e1:blkL (c :: r) = 1 + nlL r:=by rw [blkL,hbn,if_neg (by decide),if_pos h35]
   have e2:nlL (c :: r) = 1 + nlL r:=by rw [nlL,if_neg (by omega)]
   have hle:=nlL_le (c :: r)
   rw [e1,← e2]
   have GI:=hid (fun u => ixC (strT (c :: r)) 10 u)
   rw [show (strT (c :: r)).data.toList = c :: r from rfl,show ((10:Int).toNat.toUInt8) = 10 from rfl,ix_nl] at GI
   clear e1 e2 hbn hsg
   generalize nlL (c :: r) = m at *
   generalize strT (c :: r) = S at *
   generalize (c :: r).length = n at *
   generalize c.toNat = cn at *
   subst h35
   by_cases hm:m < n
   · rw [if_pos hm] at GI
     have hmz:(0:Int) ≤ (m:Int):=by omega
     go_enter Tryz.func78,Tryz.ntmps78
     go_wp2_with (go_at_call 118;refine (GI.out w).mono ?_;clear GI;rintro e w1 ⟨rfl,hw⟩;subst w1)
     go_ret
     exact ⟨rfl,rfl⟩
   · rw [if_neg hm] at GI
     have hmn:m = n:=by omega
     subst hmn
     go_enter Tryz.func78,Tryz.ntmps78
     go_wp2_with (go_at_call 118;refine (GI.out w).mono ?_;clear GI;rintro e w1 ⟨rfl,hw⟩;subst w1)
     go_ret
     exact ⟨rfl,rfl⟩
 · have e1:blkL (c :: r) = 0:=by rw [blkL,hbn,if_neg (by decide),if_neg h35]
   rw [e1]
   clear e1 hbn
   generalize strT (c :: r) = S at *
   generalize (c :: r).length = n at *
   generalize c.toNat = cn at *
   have z1:((cn:Int) == 9) = false:=by rw [beq_eq_false_iff_ne];omega
   have z2:((cn:Int) == 10) = false:=by rw [beq_eq_false_iff_ne];omega
   have z3:((cn:Int) == 13) = false:=by rw [beq_eq_false_iff_ne];omega
   have z4:((cn:Int) == 32) = false:=by rw [beq_eq_false_iff_ne];omega
   have z5:((cn:Int) == 35) = false:=by rw [beq_eq_false_iff_ne];omega
   go_enter Tryz.func78,Tryz.ntmps78
   go_wp2
   go_ret
   exact ⟨rfl,rfl⟩
end Go.Proofs.YtbpnioehmohbcaaGreat
