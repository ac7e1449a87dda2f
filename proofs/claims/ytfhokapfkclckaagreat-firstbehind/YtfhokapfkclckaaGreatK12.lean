/- The maths of layer 11: blanks, words, a text's words. topiaryref11.Letter, Skip, End. topiaryref11.End: the place behind the word at a place. Package word's leaves: letter, digit, sign, blank, name, rule. -/
import Derived.Test.YtfhokapfkclckaaGreatK11
namespace Go.Proofs.YtfhokapfkclckaaGreat
def letB (c:Nat):Bool:=c == 95 || (decide (65 ≤ c) && decide (c ≤ 90)) || (decide (97 ≤ c) && decide (c ≤ 122))
def digB (c:Nat):Bool:=decide (48 ≤ c) && decide (c ≤ 57)
def blnB (c:Nat):Bool:=c == 9 || c == 10 || c == 13 || c == 32
def sgnB (c:Nat):Bool:=c == 58 || c == 59 || c == 124 || c == 37
def skL:Bool → Txt → Nat
 | _,[] => 0
 | true,c :: r => 1 + skL (c.toNat != 10) r
 | false,c :: r => if c.toNat = 35 then 1 + skL true r else if blnB c.toNat then 1 + skL false r else 0
def namL:Txt → Nat
 | [] => 0
 | c :: r => if letB c.toNat || digB c.toNat then 1 + namL r else 0
def rgL:Bool → Txt → Option Nat
 | _,[] => none
 | tk,c :: r => if c.toNat = 10 then none else if c.toNat = 47 ∧ tk = false then some 1 else (rgL (c.toNat == 92 && !tk) r).map (· + 1)
def endL:Txt → Option Nat
 | [] => none
 | c :: r => if sgnB c.toNat then some 1 else if letB c.toNat then (if 16 < namL (c :: r) then none else some (namL (c :: r))) else if c.toNat = 47 then (rgL false r).map (· + 1) else none
abbrev Wd:=Nat × Nat × Txt
def kndW (c:Nat):Nat:=if letB c then 1 else if c = 47 then 2 else 3
def wdOf (T:Txt) (a n:Nat):Wd:=(kndW ((T.drop a).headD 0).toNat,a,if ((T.drop a).headD 0).toNat = 47 then ((T.drop (a + 1)).take (n - 2)) else (T.drop a).take n)
def wrdR (T:Txt):Nat → Nat → List Wd → List Wd × Nat × Int
 | 0,_,l => (l,0,0)
 | f + 1,a,l => if T.length ≤ a then (l,0,0) else match endL (T.drop a) with
  | none => ([],a,1)
  | some n => wrdR T f (a + n + skL false (T.drop (a + n))) (l ++ [wdOf T a n])
def wrdA (T:Txt):List Wd × Nat × Int:=if 4000 < T.length then ([],0,3) else wrdR T T.length (skL false T) []
theorem skL_le:∀ (b:Bool) (u:Txt),skL b u ≤ u.length
 | _,[] => Nat.zero_le _
 | true,c :: r => by have:=skL_le (c.toNat != 10) r;rw [skL,List.length_cons];omega
 | false,c :: r => by
  have h1:=skL_le true r
  have h2:=skL_le false r
  rw [skL,List.length_cons]
  split
  · omega
  · split <;> omega
theorem namL_le:∀ u:Txt,namL u ≤ u.length
 | [] => Nat.zero_le _
 | c :: r => by
  have:=namL_le r
  rw [namL,List.length_cons]
  split <;> omega
theorem rgL_le:∀ (tk:Bool) (u:Txt) (n:Nat),rgL tk u = some n → 0 < n ∧ n ≤ u.length
 | _,[],n,h => by cases h
 | tk,c :: r,n,h => by
  rw [rgL] at h
  split at h
  · cases h
  · split at h
    · injection h with h
      rw [List.length_cons]
      omega
    · cases e:rgL (c.toNat == 92 && !tk) r with
      | none => rw [e] at h;cases h
      | some m =>
       rw [e] at h
       have h1:=rgL_le _ r m e
       have h:m + 1 = n:=by injection h
       rw [List.length_cons]
       omega
theorem endL_le {u:Txt} {n:Nat} (h:endL u = some n):0 < n ∧ n ≤ u.length:=by
 cases u with
 | nil => cases h
 | cons c r =>
  rw [endL] at h
  split at h
  · injection h with h
    rw [List.length_cons]
    omega
  · split at h
    · rename_i h1
      split at h
      · cases h
      · injection h with h
        have h2:=namL_le (c :: r)
        have h3:0 < namL (c :: r):=by rw [namL,h1];simp;omega
        omega
    · split at h
      · cases e:rgL false r with
        | none => rw [e] at h;cases h
        | some m =>
         rw [e] at h
         have h1:=rgL_le _ r m e
         have h:m + 1 = n:=by injection h
         rw [List.length_cons]
         omega
      · cases h
theorem endL_two {u:Txt} {n:Nat} (h:endL u = some n) (h47:(u.headD 0).toNat = 47):2 ≤ n:=by
 cases u with
 | nil => cases h
 | cons c r =>
  have h47:c.toNat = 47:=h47
  rw [endL,h47] at h
  rw [if_neg (by decide),if_neg (by decide),if_pos rfl] at h
  cases e:rgL false r with
  | none => rw [e] at h;cases h
  | some m =>
   rw [e] at h
   have h1:=rgL_le _ r m e
   have h:m + 1 = n:=by injection h
   omega
def WrdI (T:Txt) (a:Nat) (l:List Wd):Prop:=∃ f,T.length ≤ a + f ∧ wrdR T f a l = wrdR T T.length (skL false T) []
theorem WrdI.start (T:Txt):WrdI T (skL false T) []:=⟨T.length,by omega,rfl⟩
theorem WrdI.fin {T:Txt} {a:Nat} {l:List Wd} (h:WrdI T a l) (ha:T.length ≤ a):wrdR T T.length (skL false T) [] = (l,0,0):=by
 obtain ⟨f,-,h2⟩:=h
 rw [← h2]
 cases f with
 | zero => rfl
 | succ f => rw [wrdR,if_pos ha]
theorem WrdI.stop {T:Txt} {a:Nat} {l:List Wd} (h:WrdI T a l) (ha:a < T.length) (he:endL (T.drop a) = none):wrdR T T.length (skL false T) [] = ([],a,1):=by
 obtain ⟨f,h1,h2⟩:=h
 rw [← h2]
 cases f with
 | zero => omega
 | succ f => rw [wrdR,if_neg (by omega),he]
theorem WrdI.next {T:Txt} {a n:Nat} {l:List Wd} (h:WrdI T a l) (ha:a < T.length) (he:endL (T.drop a) = some n):WrdI T (a + n + skL false (T.drop (a + n))) (l ++ [wdOf T a n]):=by
 obtain ⟨f,h1,h2⟩:=h
 cases f with
 | zero => omega
 | succ f =>
  have h3:=endL_le he
  refine ⟨f,by omega,?_⟩
  rw [← h2,wrdR,if_neg (by omega),he]
end Go.Proofs.YtfhokapfkclckaaGreat
namespace Go.Proofs.YtfhokapfkclckaaGreat
open Go.RowKit Go.Maps
theorem letB_yes {b:Nat} (h:b = 95 ∨ (65 ≤ b ∧ b ≤ 90) ∨ (97 ≤ b ∧ b ≤ 122)):letB b = true:=by
 unfold letB
 rw [Bool.or_eq_true,Bool.or_eq_true,Bool.and_eq_true,Bool.and_eq_true,beq_iff_eq,decide_eq_true_iff,decide_eq_true_iff,decide_eq_true_iff,decide_eq_true_iff]
 omega
theorem letB_no {b:Nat} (h:¬ (b = 95 ∨ (65 ≤ b ∧ b ≤ 90) ∨ (97 ≤ b ∧ b ≤ 122))):letB b = false:=by
 cases e:letB b with
 | false => rfl
 | true =>
  exfalso
  unfold letB at e
  rw [Bool.or_eq_true,Bool.or_eq_true,Bool.and_eq_true,Bool.and_eq_true,beq_iff_eq,decide_eq_true_iff,decide_eq_true_iff,decide_eq_true_iff,decide_eq_true_iff] at e
  omega
theorem drop_get {s:Txt} {p:Nat} (h:p < s.length):s.drop p = s.getD p 0 :: s.drop (p + 1):=by
 rw [List.drop_eq_getElem_cons h,List.getD_eq_getElem?_getD,List.getElem?_eq_getElem h]
 rfl
theorem str_get {s:Txt} {p:Nat} (h:p < s.length) (h':p < (strT s).size):(((strT s)[p]'h').toNat:Int) = ((s.getD p 0).toNat:Int):=by
 have hgd:s.getD p 0 = s[p]'h:=by rw [List.getD_eq_getElem?_getD,List.getElem?_eq_getElem h];rfl
 rw [hgd]
 exact congrArg (fun c:UInt8 => (c.toNat:Int)) (strT_at s p h' h)
theorem blnB_yes {c:Nat} (h:c = 9 ∨ c = 10 ∨ c = 13 ∨ c = 32):blnB c = true:=by
 rcases h with rfl | rfl | rfl | rfl <;> decide
theorem blnB_no {c:Nat} (h:¬ (c = 9 ∨ c = 10 ∨ c = 13 ∨ c = 32)):blnB c = false:=by
 cases e:blnB c with
 | false => rfl
 | true =>
  exfalso
  unfold blnB at e
  rw [Bool.or_eq_true,Bool.or_eq_true,Bool.or_eq_true,beq_iff_eq,beq_iff_eq,beq_iff_eq,beq_iff_eq] at e
  omega
theorem sgnB_yes {c:Nat} (h:c = 58 ∨ c = 59 ∨ c = 124 ∨ c = 37):sgnB c = true:=by
 rcases h with rfl | rfl | rfl | rfl <;> decide
theorem sgnB_no {c:Nat} (h:¬ (c = 58 ∨ c = 59 ∨ c = 124 ∨ c = 37)):sgnB c = false:=by
 cases e:sgnB c with
 | false => rfl
 | true =>
  exfalso
  unfold sgnB at e
  rw [Bool.or_eq_true,Bool.or_eq_true,Bool.or_eq_true,beq_iff_eq,beq_iff_eq,beq_iff_eq,beq_iff_eq] at e
  omega
theorem digB_iff (c:Nat):digB c = true ↔ 48 ≤ c ∧ c ≤ 57:=by
 unfold digB
 rw [Bool.and_eq_true,decide_eq_true_iff,decide_eq_true_iff]
def nlL:Txt → Nat
 | [] => 0
 | c :: r => if c.toNat = 10 then 0 else 1 + nlL r
def blkL:Txt → Nat
 | [] => 0
 | c :: r => if blnB c.toNat then 1 else if c.toNat = 35 then 1 + nlL r else 0
def nmC:Txt → Nat
 | [] => 0
 | c :: r => if letB c.toNat then (if 16 < namL (c :: r) then 0 else namL (c :: r)) else 0
def rlC:Txt → Nat
 | [] => 0
 | c :: r => if c.toNat = 47 then (match rgL false r with | none => 0 | some n => n + 1) else 0
def sgC:Txt → Nat
 | [] => 0
 | c :: _ => if sgnB c.toNat then 1 else 0
theorem nlL_le:∀ u:Txt,nlL u ≤ u.length
 | [] => Nat.zero_le _
 | c :: r => by
  have:=nlL_le r
  rw [nlL,List.length_cons]
  split <;> omega
theorem skL_true:∀ r:Txt,skL true r = nlL r + skL false (r.drop (nlL r))
 | [] => rfl
 | c :: r => by
  rw [skL,nlL]
  by_cases h:c.toNat = 10
  · rw [if_pos h,List.drop_zero,skL,h]
    rw [if_neg (by decide),if_pos (by decide)]
    show 1 + skL false r = 0 + (1 + skL false r)
    omega
  · rw [if_neg h,show (c.toNat != 10) = true from bne_iff_ne.2 h,skL_true r,show 1 + nlL r = nlL r + 1 by omega,List.drop_succ_cons]
    omega
theorem skL_blk:∀ u:Txt,skL false u = blkL u + skL false (u.drop (blkL u))
 | [] => rfl
 | c :: r => by
  rw [blkL]
  by_cases h:blnB c.toNat = true
  · rw [if_pos h,skL,h,if_pos rfl,if_neg (by intro h9;rw [h9] at h;cases h)]
    rfl
  · have hf:blnB c.toNat = false:=by cases e:blnB c.toNat with | false => rfl | true => exact absurd e h
    by_cases h35:c.toNat = 35
    · rw [if_neg h,if_pos h35,skL,if_pos h35,skL_true r,show 1 + nlL r = nlL r + 1 by omega,List.drop_succ_cons]
      omega
    · rw [if_neg h,if_neg h35,Nat.zero_add,List.drop_zero]
theorem skL_none {u:Txt} (h:blkL u = 0):skL false u = 0:=by
 cases u with
 | nil => rfl
 | cons c r =>
  rw [blkL] at h
  rw [skL]
  by_cases h1:blnB c.toNat = true
  · rw [if_pos h1] at h;omega
  · rw [if_neg h1] at h
    by_cases h35:c.toNat = 35
    · rw [if_pos h35] at h;omega
    · rw [if_neg h35,if_neg h1]
theorem blkL_le (u:Txt):blkL u ≤ u.length:=by
 cases u with
 | nil => exact Nat.zero_le _
 | cons c r =>
  have:=nlL_le r
  rw [blkL,List.length_cons]
  split
  · omega
  · split <;> omega
set_option maxRecDepth 20000 in
theorem letterP (b:Nat) (w:World) (hb:b < 256):Calls Tryz.prog 121 #[.int .u8 (b:Int)] w fun e w' => e = .returned (.bool (letB b)) ∧ w' = w:=by
 rcases (show b = 95 ∨ (65 ≤ b ∧ b ≤ 90) ∨ (97 ≤ b ∧ b ≤ 122) ∨ b < 65 ∨ (90 < b ∧ b < 97 ∧ b ≠ 95) ∨ 122 < b by omega) with h | h | h | h | h | h
 · rw [letB_yes (by omega)]
   subst h
   go_enter Tryz.func121,Tryz.ntmps121
   go_wp2
   go_ret
   exact ⟨by simp,rfl⟩
 · rw [letB_yes (by omega)]
   have h0:¬ (97:Int) ≤ (b:Int):=by omega
   have h2:(65:Int) ≤ (b:Int):=by omega
   have h3:(b:Int) ≤ 90:=by omega
   go_enter Tryz.func121,Tryz.ntmps121
   go_wp2
   go_ret
   exact ⟨by simp,rfl⟩
 · rw [letB_yes (by omega)]
   have h4:(97:Int) ≤ (b:Int):=by omega
   have h5:(b:Int) ≤ 122:=by omega
   go_enter Tryz.func121,Tryz.ntmps121
   go_wp2
   go_ret
   exact ⟨by simp,rfl⟩
 · rw [letB_no (by omega)]
   have h1:((b:Int) == 95) = false:=by rw [beq_eq_false_iff_ne];omega
   have h2:¬ (65:Int) ≤ (b:Int):=by omega
   have h4:¬ (97:Int) ≤ (b:Int):=by omega
   go_enter Tryz.func121,Tryz.ntmps121
   go_wp2
   go_ret
   exact ⟨by simp,rfl⟩
 · rw [letB_no (by omega)]
   have h1:((b:Int) == 95) = false:=by rw [beq_eq_false_iff_ne];omega
   have h2:(65:Int) ≤ (b:Int):=by omega
   have h3:¬ (b:Int) ≤ 90:=by omega
   have h4:¬ (97:Int) ≤ (b:Int):=by omega
   go_enter Tryz.func121,Tryz.ntmps121
   go_wp2
   go_ret
   exact ⟨by simp,rfl⟩
 · rw [letB_no (by omega)]
   have h1:((b:Int) == 95) = false:=by rw [beq_eq_false_iff_ne];omega
   have h2:(65:Int) ≤ (b:Int):=by omega
   have h3:¬ (b:Int) ≤ 90:=by omega
   have h4:(97:Int) ≤ (b:Int):=by omega
   have h5:¬ (b:Int) ≤ 122:=by omega
   go_enter Tryz.func121,Tryz.ntmps121
   go_wp2
   go_ret
   exact ⟨by simp,rfl⟩
set_option maxRecDepth 20000 in
theorem digitP (b:Nat) (w:World) (hb:b < 256):Calls Tryz.prog 122 #[.int .u8 (b:Int)] w fun e w' => e = .returned (.bool (digB b)) ∧ w' = w:=by
 rcases (show b < 48 ∨ (48 ≤ b ∧ b ≤ 57) ∨ 57 < b by omega) with h | h | h
 · have e1:digB b = false:=by unfold digB;rw [decide_eq_false (by omega)];rfl
   rw [e1]
   have h1:¬ (48:Int) ≤ (b:Int):=by omega
   go_enter Tryz.func122,Tryz.ntmps122
   go_wp2
   go_ret
   exact ⟨by simp,rfl⟩
 · rw [(digB_iff b).2 h]
   have h1:(48:Int) ≤ (b:Int):=by omega
   have h2:(b:Int) ≤ 57:=by omega
   go_enter Tryz.func122,Tryz.ntmps122
   go_wp2
   go_ret
   exact ⟨by simp,rfl⟩
 · have e1:digB b = false:=by unfold digB;rw [decide_eq_false (show ¬ b ≤ 57 by omega),Bool.and_false]
   rw [e1]
   have h1:(48:Int) ≤ (b:Int):=by omega
   have h2:¬ (b:Int) ≤ 57:=by omega
   go_enter Tryz.func122,Tryz.ntmps122
   go_wp2
   go_ret
   exact ⟨by simp,rfl⟩
set_option maxRecDepth 20000 in
theorem ixExt (S:ByteArray) (z:Int) (w:World):(callFunc 156 #[.string S,.int .u8 z]).run Tryz.prog w = .ok (.value (.int .i64 (Lib.indexByte S.data.toList z.toNat.toUInt8))) w:=by
 rw [run_callFunc_indexByte Tryz.func156 (by kernel_rfl) (by kernel_rfl) (by kernel_rfl) (by kernel_rfl),Lib.run_indexByteString]
 rfl
set_option maxRecDepth 20000 in
theorem ixLite (S:ByteArray) (z:Int) (w:World):Calls Tryz.prog 143 #[.string S,.int .u8 z] w fun e w' => e = .returned (.int .i64 (Lib.indexByte S.data.toList z.toNat.toUInt8)) ∧ w' = w:=by
 have hx:=ixExt S z
 go_enter Tryz.func143,Tryz.ntmps143
 go_wp2
 go_ret
 exact ⟨rfl,rfl⟩
set_option maxRecDepth 20000 in
theorem ixC (S:ByteArray) (z:Int) (w:World):Calls Tryz.prog 120 #[.string S,.int .u8 z] w fun e w' => e = .returned (.int .i64 (Lib.indexByte S.data.toList z.toNat.toUInt8)) ∧ w' = w:=by
 have G:=hid (ixLite S z)
 go_enter Tryz.func120,Tryz.ntmps120
 go_wp2_with (go_at_call 143;refine (G.out _).mono ?_;rintro e w1 ⟨rfl,hw⟩;subst w1)
 go_ret
 exact ⟨rfl,rfl⟩
end Go.Proofs.YtfhokapfkclckaaGreat
