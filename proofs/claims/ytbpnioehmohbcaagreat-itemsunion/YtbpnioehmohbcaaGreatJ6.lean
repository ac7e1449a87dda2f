/- The reader: escaped, told. Sets of bytes word by word: or, and, not, one; how many bits a word has. Or, Not of package bytes. bit, One of package bytes. -/
import Derived.Test.YtbpnioehmohbcaaGreatJ5
import Derived.Test.YtbpnioehmohbcaaGreatJ1
import Derived.Test.YtbpnioehmohbcaaGreatJ4
import Derived.Laws.BitsAllLaws
import Derived.Laws.Bits128
import Derived.BigQuiet
namespace Go.Proofs.YtbpnioehmohbcaaGreat
open Go.RowKit
theorem escF_hex (r:Txt):escF (120 :: r) = match hexP r with
 | none => none
 | some (a,r1) => match hexP r1 with
  | none => none
  | some (b,q) => some (16 * a + b,q):=by
 show (match r with
  | x :: y :: q => match hexF x,hexF y with
   | some a,some b => some (16 * a + b,q)
   | _,_ => none
  | _ => none) = _
 cases r with
 | nil => rfl
 | cons x r =>
  cases r with
  | nil => cases hx:hexF x <;> simp [hexP,hx]
  | cons y q => cases hx:hexF x <;> cases hy:hexF y <;> simp [hexP,hx,hy]
theorem hexP_lt {q r:Txt} {a:Nat} (h:hexP q = some (a,r)):a < 16:=by
 cases q with
 | nil => cases h
 | cons c q =>
  cases hx:hexF c with
  | none => simp [hexP,hx] at h
  | some b =>
   simp [hexP,hx] at h
   have:=hex_lt _ _ hx
   omega
set_option maxRecDepth 20000 in
set_option maxHeartbeats 2000000 in
theorem escapedC {w:World} {rb:Nat} {v:Value} {s q:Txt} (h:At w rb v s q) (hs:s.length ≤ 200) (p:Int) :
 Calls Tryz.prog 187 #[.pointer (some ⟨rb,0,none⟩),.int .i64 p] w (Said p (escF q) w rb v s):=by
 cases q with
 | nil =>
  have G:=hid (nextNo h hs p)
  clear h
  go_enter Tryz.func187,Tryz.ntmps187
  go_wp2_with (go_at_call 186;refine G.out.mono ?_;rintro e w1 ⟨rfl,hb1⟩)
  exact ⟨rfl,rfl,Kept.of_below hb1⟩
 | cons c r =>
  have G:=hid (nextYes h hs p)
  clear h
  by_cases h1:c = 110
  · subst h1
    rw [show escF (110 :: r) = some (10,r) from rfl]
    rw [show ((110:UInt8).toNat:Int) = 110 from rfl] at G
    go_enter Tryz.func187,Tryz.ntmps187
    go_wp2_with (go_at_call 186;refine G.out.mono ?_;rintro e w1 ⟨rfl,hat,hk⟩;have hat:=hid hat)
    go_ret
    exact ⟨⟨rfl,hat.out⟩,hk⟩
  by_cases h2:c = 116
  · subst h2
    rw [show escF (116 :: r) = some (9,r) from rfl]
    rw [show ((116:UInt8).toNat:Int) = 116 from rfl] at G
    go_enter Tryz.func187,Tryz.ntmps187
    go_wp2_with (go_at_call 186;refine G.out.mono ?_;rintro e w1 ⟨rfl,hat,hk⟩;have hat:=hid hat)
    go_ret
    exact ⟨⟨rfl,hat.out⟩,hk⟩
  by_cases h3:c = 114
  · subst h3
    rw [show escF (114 :: r) = some (13,r) from rfl]
    rw [show ((114:UInt8).toNat:Int) = 114 from rfl] at G
    go_enter Tryz.func187,Tryz.ntmps187
    go_wp2_with (go_at_call 186;refine G.out.mono ?_;rintro e w1 ⟨rfl,hat,hk⟩;have hat:=hid hat)
    go_ret
    exact ⟨⟨rfl,hat.out⟩,hk⟩
  by_cases h4:c = 120
  · subst h4
    rw [escF_hex]
    rw [show ((120:UInt8).toNat:Int) = 120 from rfl] at G
    have GD:=hid (fun u q (hat:At u rb v s q) => digitC hat hs p)
    clear h1 h2 h3
    cases e1:hexP r with
    | none =>
     have GD1:=hid (fun u (hat:At u rb v s r) => (show Calls _ _ _ _ (Said p none u rb v s) by have:=GD.out u r hat;rwa [e1] at this))
     clear e1 GD
     go_enter Tryz.func187,Tryz.ntmps187
     go_wp2_with (first
      | (go_at_call 186;refine G.out.mono ?_;rintro e w1 ⟨rfl,hat,hk⟩;have hat:=hid hat)
      | (go_at_call 190;refine (GD1.out _ hat.out).mono ?_;intro e w2 hw2;obtain ⟨he2,hk2⟩:=hw2.no;subst he2))
     exact ⟨rfl,rfl,hk.trans hk2⟩
    | some x =>
     obtain ⟨a,r1⟩:=x
     have ha:=hexP_lt e1
     have GD1:=hid (fun u (hat:At u rb v s r) => (show Calls _ _ _ _ (Said p (some (a,r1)) u rb v s) by have:=GD.out u r hat;rwa [e1] at this))
     show Calls _ _ _ _ (Said p (match hexP r1 with | none => none | some (b,q) => some (16 * a + b,q)) w rb v s)
     cases e2:hexP r1 with
     | none =>
      have GD2:=hid (fun u (hat:At u rb v s r1) => (show Calls _ _ _ _ (Said p none u rb v s) by have:=GD.out u r1 hat;rwa [e2] at this))
      clear e1 e2 GD
      go_enter Tryz.func187,Tryz.ntmps187
      go_wp2_with (first
       | (go_at_call 186;refine G.out.mono ?_;rintro e w1 ⟨rfl,hat,hk⟩;have hat:=hid hat)
       | (go_at_call 190;refine (GD2.out _ hat2.out).mono ?_;intro e w3 hw3;obtain ⟨he3,hk3⟩:=hw3.no;subst he3)
       | (go_at_call 190;refine (GD1.out _ hat.out).mono ?_;intro e w2 hw2;obtain ⟨he2,hat2,hk2⟩:=hw2.yes;subst he2;have hat2:=hid hat2))
      exact ⟨rfl,rfl,(hk.trans hk2).trans hk3⟩
     | some y =>
      obtain ⟨b,r2⟩:=y
      have hb:=hexP_lt e2
      have GD2:=hid (fun u (hat:At u rb v s r1) => (show Calls _ _ _ _ (Said p (some (b,r2)) u rb v s) by have:=GD.out u r1 hat;rwa [e2] at this))
      clear e1 e2 GD
      have haz:(a:Int) ≤ 15:=by omega
      have hbz:(b:Int) ≤ 15:=by omega
      go_enter Tryz.func187,Tryz.ntmps187
      go_wp2_with (first
       | (go_at_call 186;refine G.out.mono ?_;rintro e w1 ⟨rfl,hat,hk⟩;have hat:=hid hat)
       | (go_at_call 190;refine (GD2.out _ hat2.out).mono ?_;intro e w3 hw3;obtain ⟨he3,hat3,hk3⟩:=hw3.yes;subst he3;have hat3:=hid hat3)
       | (go_at_call 190;refine (GD1.out _ hat.out).mono ?_;intro e w2 hw2;obtain ⟨he2,hat2,hk2⟩:=hw2.yes;subst he2;have hat2:=hid hat2))
      go_ret
      exact ⟨⟨ret_u8 (by omega),hat3.out⟩,(hk.trans hk2).trans hk3⟩
  have e:escF (c :: r) = if escD c then some (c.toNat,r) else none:=by
   simp only [escF]
   rw [if_neg h1,if_neg h2,if_neg h3,if_neg h4]
  rw [e]
  have hn:=c.toNat_lt
  have n1:¬ c.toNat = 110:=fun h => h1 (UInt8.toNat_inj.1 h)
  have n2:¬ c.toNat = 116:=fun h => h2 (UInt8.toNat_inj.1 h)
  have n3:¬ c.toNat = 114:=fun h => h3 (UInt8.toNat_inj.1 h)
  have n4:¬ c.toNat = 120:=fun h => h4 (UInt8.toNat_inj.1 h)
  have GI:=hid (fun u => idxC bothS (c.toNat:Int) u)
  rw [toU8] at GI
  have hh:=tells_both c.toNat hn
  have hle:=Lib.indexByte_ge bothS.data.toList (UInt8.ofNat c.toNat)
  rw [show UInt8.ofNat c.toNat = c by simp] at GI hh hle
  generalize Lib.indexByte bothS.data.toList c = z at GI hh hle
  clear e h1 h2 h3 h4
  generalize c.toNat = n at G GI n1 n2 n3 n4 hn ⊢
  have c1:((n:Int) == 110) = false:=beq_eq_false_iff_ne.2 (by omega)
  have c2:((n:Int) == 116) = false:=beq_eq_false_iff_ne.2 (by omega)
  have c3:((n:Int) == 114) = false:=beq_eq_false_iff_ne.2 (by omega)
  have c4:((n:Int) == 120) = false:=beq_eq_false_iff_ne.2 (by omega)
  cases hd:escD c with
  | true =>
   rw [hd] at hh
   have hz:¬ z < 0:=by simpa using hh
   rw [if_pos rfl]
   clear hh hd
   go_enter Tryz.func187,Tryz.ntmps187
   go_wp2_with (first
    | (go_at_call 186;refine G.out.mono ?_;rintro e w1 ⟨rfl,hat,hk⟩;have hat:=hid hat)
    | (go_at_call 118;refine (GI.out _).mono ?_;rintro e u1 ⟨rfl,hu⟩;subst u1))
   go_ret
   exact ⟨⟨rfl,hat.out⟩,hk⟩
  | false =>
   rw [hd] at hh
   have hz:z < 0:=by simpa using hh
   rw [if_neg Bool.false_ne_true]
   clear hh hd
   go_enter Tryz.func187,Tryz.ntmps187
   go_wp2_with (first
    | (go_at_call 186;refine G.out.mono ?_;rintro e w1 ⟨rfl,hat,hk⟩;have hat:=hid hat)
    | (go_at_call 118;refine (GI.out _).mono ?_;rintro e u1 ⟨rfl,hu⟩;subst u1))
   exact ⟨rfl,rfl,hk⟩
def plc (s q:Txt):Int:=(s.length:Int) - q.length
theorem At.place {w:World} {rb:Nat} {v:Value} {s q:Txt} (h:At w rb v s q):w.cell? ⟨rb,1,none⟩ = some (.int .i64 (plc s q)):=by
 obtain ⟨pre,hp,hb⟩:=h
 obtain ⟨c0,c1,c2,c3,c4⟩:=rd3 hb
 rw [c1]
 unfold plc
 rw [hp]
 simp
set_option maxRecDepth 20000 in
set_option maxHeartbeats 2000000 in
theorem toldC {w:World} {rb:Nat} {v:Value} {s q:Txt} (h:At w rb v s q) (hs:s.length ≤ 200) (S:ByteArray) (left:UInt8 → Bool) (hT:Tells S fun c => left c || c == 92) :
 Calls Tryz.prog 181 #[.pointer (some ⟨rb,0,none⟩),.string S] w (Said (plc s q) (signF left q) w rb v s):=by
 have hpl:=h.place
 generalize plc s q = p at hpl ⊢
 cases q with
 | nil =>
  have G:=hid (nextNo h hs p)
  clear h
  go_enter Tryz.func181,Tryz.ntmps181
  go_wp2_with (go_at_call 186;refine G.out.mono ?_;rintro e w1 ⟨rfl,hb1⟩)
  exact ⟨rfl,rfl,Kept.of_below hb1⟩
 | cons c r =>
  have G:=hid (nextYes h hs p)
  clear h
  by_cases h1:c = 92
  · subst h1
    rw [show signF left (92 :: r) = escF r from rfl]
    rw [show ((92:UInt8).toNat:Int) = 92 from rfl] at G
    have GE:=hid (fun u (hat:At u rb v s r) => escapedC hat hs p)
    cases e1:escF r with
    | none =>
     rw [e1] at GE
     clear e1
     go_enter Tryz.func181,Tryz.ntmps181
     go_wp2_with (first
      | (go_at_call 186;refine G.out.mono ?_;rintro e w1 ⟨rfl,hat,hk⟩;have hat:=hid hat)
      | (go_at_call 187;refine (GE.out _ hat.out).mono ?_;intro e w2 hw2;obtain ⟨he2,hk2⟩:=hw2.no;subst he2))
     exact ⟨rfl,rfl,hk.trans hk2⟩
    | some x =>
     obtain ⟨b,r1⟩:=x
     rw [e1] at GE
     clear e1
     go_enter Tryz.func181,Tryz.ntmps181
     go_wp2_with (first
      | (go_at_call 186;refine G.out.mono ?_;rintro e w1 ⟨rfl,hat,hk⟩;have hat:=hid hat)
      | (go_at_call 187;refine (GE.out _ hat.out).mono ?_;intro e w2 hw2;obtain ⟨he2,hat2,hk2⟩:=hw2.yes;subst he2;have hat2:=hid hat2))
     go_ret
     exact ⟨⟨rfl,hat2.out⟩,hk.trans hk2⟩
  · have hn:=c.toNat_lt
    have n1:¬ c.toNat = 92:=fun h => h1 (UInt8.toNat_inj.1 h)
    have GP:=hid (fun u => plainC c.toNat S _ u hn hT)
    have e:signF left (c :: r) = if plainB c.toNat (fun c => left c || c == 92) then some (c.toNat,r) else none:=by
     have hpb:plainB c.toNat (fun c => left c || c == 92) = (decide (32 ≤ c.toNat ∧ c.toNat ≤ 126) && !left c):=by
      show (decide (32 ≤ c.toNat ∧ c.toNat ≤ 126) && !(left (UInt8.ofNat c.toNat) || UInt8.ofNat c.toNat == 92)) = _
      rw [show UInt8.ofNat c.toNat = c by simp,show (c == 92) = false from beq_eq_false_iff_ne.2 h1,Bool.or_false]
     rw [hpb]
     simp only [signF]
     rw [if_neg h1]
     have hlt:(c < 32 ∨ 126 < c) ↔ ¬ (32 ≤ c.toNat ∧ c.toNat ≤ 126):=by
      rw [UInt8.lt_iff_toNat_lt,UInt8.lt_iff_toNat_lt]
      simp
      omega
     by_cases hv:32 ≤ c.toNat ∧ c.toNat ≤ 126
     · rw [if_neg (fun h => (hlt.1 h) hv),decide_eq_true hv]
       cases left c <;> rfl
     · rw [if_pos (hlt.2 hv),decide_eq_false hv]
       rfl
    rw [e]
    clear e h1 hT
    generalize plainB c.toNat (fun c => left c || c == 92) = pb at GP ⊢
    generalize c.toNat = n at G GP n1 hn ⊢
    have c1:((n:Int) == 92) = false:=beq_eq_false_iff_ne.2 (by omega)
    cases pb with
    | true =>
     rw [if_pos rfl]
     go_enter Tryz.func181,Tryz.ntmps181
     go_wp2_with (first
      | (go_at_call 186;refine G.out.mono ?_;rintro e w1 ⟨rfl,hat,hk⟩;have hat:=hid hat)
      | (go_at_call 188;refine (GP.out _).mono ?_;rintro e u1 ⟨rfl,hu⟩;subst u1))
     go_ret
     exact ⟨⟨rfl,hat.out⟩,hk⟩
    | false =>
     rw [if_neg Bool.false_ne_true]
     go_enter Tryz.func181,Tryz.ntmps181
     go_wp2_with (first
      | (go_at_call 186;refine G.out.mono ?_;rintro e w1 ⟨rfl,hat,hk⟩;have hat:=hid hat)
      | (go_at_call 188;refine (GP.out _).mono ?_;rintro e u1 ⟨rfl,hu⟩;subst u1))
     exact ⟨rfl,rfl,hk⟩
end Go.Proofs.YtbpnioehmohbcaaGreat
namespace Go.Proofs.YtbpnioehmohbcaaGreat
theorem or_words (S T:W4) (hS:Fit4 S) (hT:Fit4 T):orB S T = ⟨S.a ||| T.a,S.b ||| T.b,S.c ||| T.c,S.d ||| T.d⟩:=by
 have lt:∀ m n:Nat,m < 18446744073709551616 → n < 18446744073709551616 → m ||| n < 18446744073709551616:=fun m n hm hn => Nat.or_lt_two_pow (n:=64) hm hn
 refine (mkB_eq ⟨lt _ _ hS.a hT.a,lt _ _ hS.b hT.b,lt _ _ hS.c hT.c,lt _ _ hS.d hT.d⟩ fun x hx => ?_).symm
 unfold hasB
 have h4:x / 64 = 0 ∨ x / 64 = 1 ∨ x / 64 = 2 ∨ x / 64 = 3:=by omega
 rcases h4 with h | h | h | h <;> rw [h] <;> exact Nat.testBit_or _ _ _
theorem not_bit (n j:Nat) (hn:n < 18446744073709551616) (hj:j < 64):(18446744073709551615 - n).testBit j = !n.testBit j:=by
 have:=Nat.testBit_two_pow_sub_succ (n:=64) (x:=n) hn j
 rw [show (2:Nat) ^ 64 - (n + 1) = 18446744073709551615 - n by omega] at this
 rw [this]
 simp [hj]
theorem not_words (S:W4) (hS:Fit4 S):notB S = ⟨18446744073709551615 - S.a,18446744073709551615 - S.b,18446744073709551615 - S.c,18446744073709551615 - S.d⟩:=by
 have lt:∀ n:Nat,18446744073709551615 - n < 18446744073709551616:=fun n => by omega
 refine (mkB_eq ⟨lt _,lt _,lt _,lt _⟩ fun x hx => ?_).symm
 unfold hasB
 have h4:x / 64 = 0 ∨ x / 64 = 1 ∨ x / 64 = 2 ∨ x / 64 = 3:=by omega
 rcases h4 with h | h | h | h <;> rw [h]
 · exact not_bit _ _ hS.a (by omega)
 · exact not_bit _ _ hS.b (by omega)
 · exact not_bit _ _ hS.c (by omega)
 · exact not_bit _ _ hS.d (by omega)
theorem xor_all (n:Nat) (hn:n < 18446744073709551616):n ^^^ 18446744073709551615 = 18446744073709551615 - n:=by
 refine word_ext (Nat.xor_lt_two_pow (n:=64) hn (by decide)) (by omega) fun j hj => ?_
 rw [Nat.testBit_xor,not_bit n j hn hj]
 have:(18446744073709551615:Nat).testBit j = true:=by
  have h:=not_bit 0 j (by omega) hj
  rw [Nat.zero_testBit] at h
  exact h
 rw [this]
 cases n.testBit j <;> rfl
theorem one_word (x:Nat) (hx:x < 256):spanB x x = noneB.set (x / 64) (2 ^ (x % 64)):=by
 have h0:noneB.w (x / 64) = 0:=by
  have h4:x / 64 = 0 ∨ x / 64 = 1 ∨ x / 64 = 2 ∨ x / 64 = 3:=by omega
  rcases h4 with h | h | h | h <;> rw [h] <;> rfl
 have h1:putB noneB x = noneB.set (x / 64) (2 ^ (x % 64)):=by
  unfold putB
  rw [noneB_has,h0]
  simp
 rw [← h1]
 refine (mkB_eq (putB_fit noneB_fit x) fun y hy => ?_).symm
 rw [putB_has _ x y hx hy,noneB_has,Bool.false_or,Bool.eq_iff_iff]
 simp only [Bool.and_eq_true,decide_eq_true_eq]
 omega
/-! ### how many bits -/
end Go.Proofs.YtbpnioehmohbcaaGreat
namespace Go.Proofs.YtbpnioehmohbcaaGreat
open Go.RowKit
def mixW (R S:W4) (k:Nat):W4:=⟨if 0 < k then R.a else S.a,if 1 < k then R.b else S.b,if 2 < k then R.c else S.c,if 3 < k then R.d else S.d⟩
set_option maxRecDepth 20000 in
theorem index4 (x0 x1 x2 x3:Int) (i:Nat) (v:Int) (w:World) (hv:[x0,x1,x2,x3][i]? = some v) :
 (Instr.index 130 (.agg #[.int .u64 x0,.int .u64 x1,.int .u64 x2,.int .u64 x3]) (.int .i64 (i:Int))).run Tryz.prog w = .ok (.int .u64 v) w:=by
 have hi:i = 0 ∨ i = 1 ∨ i = 2 ∨ i = 3:=by
  have:i < 4:=by
   rcases Nat.lt_or_ge i 4 with h | h
   · exact h
   · rw [List.getElem?_eq_none (by simpa using h)] at hv;cases hv
  omega
 rcases hi with rfl | rfl | rfl | rfl
 all_goals
  simp at hv
  subst hv
  simp [Instr.index,run_underlying Tryz.underlying130,asIntOf,go_sem,part,isAgg,run_underlying Tryz.underlying128]
set_option maxRecDepth 20000 in
set_option maxHeartbeats 1000000 in
theorem orC (sa sb sc sd ta tb tc td:Nat) (w:World) (hS:Fit4 ⟨sa,sb,sc,sd⟩) (hT:Fit4 ⟨ta,tb,tc,td⟩) :
 Calls Tryz.prog 183 #[valB ⟨sa,sb,sc,sd⟩,valB ⟨ta,tb,tc,td⟩] w fun e w' => e = .returned (valB (orB ⟨sa,sb,sc,sd⟩ ⟨ta,tb,tc,td⟩)) ∧ Below w.heap.size w w':=by
 rw [or_words _ _ hS hT]
 have k0:=u64_or_nat sa ta hS.1 hT.1
 have k1:=u64_or_nat sb tb hS.2 hT.2
 have k2:=u64_or_nat sc tc hS.3 hT.3
 have k3:=u64_or_nat sd td hS.4 hT.4
 simp only
 generalize sa ||| ta = ra at k0 ⊢
 generalize sb ||| tb = rb at k1 ⊢
 generalize sc ||| tc = rc at k2 ⊢
 generalize sd ||| td = rd at k3 ⊢
 clear hS hT
 have ix0:∀ u,(Instr.index 130 (.agg #[.int .u64 (ta:Int),.int .u64 (tb:Int),.int .u64 (tc:Int),.int .u64 (td:Int)]) (.int .i64 0)).run Tryz.prog u = .ok (.int .u64 (ta:Int)) u:=fun u => index4 ta tb tc td 0 ta u rfl
 have ix1:∀ u,(Instr.index 130 (.agg #[.int .u64 (ta:Int),.int .u64 (tb:Int),.int .u64 (tc:Int),.int .u64 (td:Int)]) (.int .i64 1)).run Tryz.prog u = .ok (.int .u64 (tb:Int)) u:=fun u => index4 ta tb tc td 1 tb u rfl
 have ix2:∀ u,(Instr.index 130 (.agg #[.int .u64 (ta:Int),.int .u64 (tb:Int),.int .u64 (tc:Int),.int .u64 (td:Int)]) (.int .i64 2)).run Tryz.prog u = .ok (.int .u64 (tc:Int)) u:=fun u => index4 ta tb tc td 2 tc u rfl
 have ix3:∀ u,(Instr.index 130 (.agg #[.int .u64 (ta:Int),.int .u64 (tb:Int),.int .u64 (tc:Int),.int .u64 (td:Int)]) (.int .i64 3)).run Tryz.prog u = .ok (.int .u64 (td:Int)) u:=fun u => index4 ta tb tc td 3 td u rfl
 go_enter Tryz.func183,Tryz.ntmps183
 go_wp2
 go_loopw [8] (fun i wr => ∃ k:Nat,k ≤ 4 ∧ i = .int .i64 k ∧ Hid (Blk wr w.heap.size (mixW ⟨ra,rb,rc,rd⟩ ⟨sa,sb,sc,sd⟩ k)) ∧ Hid (Blk wr (w.heap.size + 2) noneB) ∧ Below w.heap.size w wr) (fun i _ => 4 - (intOf i).toNat)
 case atStart => exact ⟨0,Nat.zero_le _,rfl,hid (three_blocks w _ _ _).1,hid (three_blocks w _ _ _).2.2,bl_step (bl_step (al' w _) (al' _ _)) (al' _ _)⟩
 case round =>
  obtain ⟨k,hk,rfl,bS0,bR0,hbl⟩:=hrel
  have hk5:k = 0 ∨ k = 1 ∨ k = 2 ∨ k = 3 ∨ k = 4:=by omega
  rcases hk5 with rfl | rfl | rfl | rfl | rfl
  · have bS0':Blk wr w.heap.size ⟨sa,sb,sc,sd⟩:=bS0.out
    obtain ⟨s0,s1,s2,s3,s4,s5,s6,s7⟩:=bS0'.cells
    have bS1:Blk (wr.setCell ⟨w.heap.size,0,none⟩ (.int .u64 (ra:Int))) w.heap.size ⟨ra,sb,sc,sd⟩:=heap_setCell bS0'
    have bR1:Blk (wr.setCell ⟨w.heap.size,0,none⟩ (.int .u64 (ra:Int))) (w.heap.size + 2) noneB:=(Below.heap_setCell _ _ _ _ (by simp)).trans bR0.out
    have bS1:=hid bS1
    have bR1:=hid bR1
    clear bS0'
    go_wp2
    go_roundw
    case rel => exact ⟨1,by omega,rfl,bS1,bR1,bl_set hbl _ _ _ (Nat.le_refl _)⟩
    case measure => simp [intOf]
  · have bS0':Blk wr w.heap.size ⟨ra,sb,sc,sd⟩:=bS0.out
    obtain ⟨s0,s1,s2,s3,s4,s5,s6,s7⟩:=bS0'.cells
    have bS1:Blk (wr.setCell ⟨w.heap.size,1,none⟩ (.int .u64 (rb:Int))) w.heap.size ⟨ra,rb,sc,sd⟩:=heap_setCell bS0'
    have bR1:Blk (wr.setCell ⟨w.heap.size,1,none⟩ (.int .u64 (rb:Int))) (w.heap.size + 2) noneB:=(Below.heap_setCell _ _ _ _ (by simp)).trans bR0.out
    have bS1:=hid bS1
    have bR1:=hid bR1
    clear bS0'
    go_wp2
    go_roundw
    case rel => exact ⟨2,by omega,rfl,bS1,bR1,bl_set hbl _ _ _ (Nat.le_refl _)⟩
    case measure => simp [intOf]
  · have bS0':Blk wr w.heap.size ⟨ra,rb,sc,sd⟩:=bS0.out
    obtain ⟨s0,s1,s2,s3,s4,s5,s6,s7⟩:=bS0'.cells
    have bS1:Blk (wr.setCell ⟨w.heap.size,2,none⟩ (.int .u64 (rc:Int))) w.heap.size ⟨ra,rb,rc,sd⟩:=heap_setCell bS0'
    have bR1:Blk (wr.setCell ⟨w.heap.size,2,none⟩ (.int .u64 (rc:Int))) (w.heap.size + 2) noneB:=(Below.heap_setCell _ _ _ _ (by simp)).trans bR0.out
    have bS1:=hid bS1
    have bR1:=hid bR1
    clear bS0'
    go_wp2
    go_roundw
    case rel => exact ⟨3,by omega,rfl,bS1,bR1,bl_set hbl _ _ _ (Nat.le_refl _)⟩
    case measure => simp [intOf]
  · have bS0':Blk wr w.heap.size ⟨ra,rb,rc,sd⟩:=bS0.out
    obtain ⟨s0,s1,s2,s3,s4,s5,s6,s7⟩:=bS0'.cells
    have bS1:Blk (wr.setCell ⟨w.heap.size,3,none⟩ (.int .u64 (rd:Int))) w.heap.size ⟨ra,rb,rc,rd⟩:=heap_setCell bS0'
    have bR1:Blk (wr.setCell ⟨w.heap.size,3,none⟩ (.int .u64 (rd:Int))) (w.heap.size + 2) noneB:=(Below.heap_setCell _ _ _ _ (by simp)).trans bR0.out
    have bS1:=hid bS1
    have bR1:=hid bR1
    clear bS0'
    go_wp2
    go_roundw
    case rel => exact ⟨4,by omega,rfl,bS1,bR1,bl_set hbl _ _ _ (Nat.le_refl _)⟩
    case measure => simp [intOf]
  · obtain ⟨o0,o1,o2,o3,o4,o5,o6,o7⟩:=Blk.cells (show Blk wr w.heap.size ⟨ra,rb,rc,rd⟩ from bS0.out)
    obtain ⟨r0,r1,r2,r3,r4,r5,r6,r7⟩:=Blk.cells (sa:=0) (sb:=0) (sc:=0) (sd:=0) bR0.out
    go_wp2
    refine bodyPost_ret (v:=.agg #[.int .u64 ra,.int .u64 rb,.int .u64 rc,.int .u64 rd]) (by simp [results,Tryz.results183,go_sem,r0,r1,r2,r3]) rfl ⟨rfl,bl_put hbl ⟨ra,rb,rc,rd⟩ (by omega)⟩
theorem not_u64 (n:Nat) (hn:n < 18446744073709551616):bits .xor .u64 (if IntKind.u64.signed = true then -1 else IntKind.u64.max) (n:Int) = ((18446744073709551615 - n:Nat):Int):=by
 rw [show (if IntKind.u64.signed = true then -1 else IntKind.u64.max) = ((18446744073709551615:Nat):Int) by decide,u64_xor_nat _ _ (by omega) hn,Nat.xor_comm,xor_all n hn]
set_option maxRecDepth 20000 in
set_option maxHeartbeats 1000000 in
theorem notC (sa sb sc sd:Nat) (w:World) (hS:Fit4 ⟨sa,sb,sc,sd⟩) :
 Calls Tryz.prog 184 #[valB ⟨sa,sb,sc,sd⟩] w fun e w' => e = .returned (valB (notB ⟨sa,sb,sc,sd⟩)) ∧ Below w.heap.size w w':=by
 rw [not_words _ hS]
 have k0:=not_u64 sa hS.1
 have k1:=not_u64 sb hS.2
 have k2:=not_u64 sc hS.3
 have k3:=not_u64 sd hS.4
 simp only
 generalize 18446744073709551615 - sa = ra at k0 ⊢
 generalize 18446744073709551615 - sb = rb at k1 ⊢
 generalize 18446744073709551615 - sc = rc at k2 ⊢
 generalize 18446744073709551615 - sd = rd at k3 ⊢
 clear hS
 have ix0:∀ u,(Instr.index 130 (.agg #[.int .u64 (sa:Int),.int .u64 (sb:Int),.int .u64 (sc:Int),.int .u64 (sd:Int)]) (.int .i64 0)).run Tryz.prog u = .ok (.int .u64 (sa:Int)) u:=fun u => index4 sa sb sc sd 0 sa u rfl
 have ix1:∀ u,(Instr.index 130 (.agg #[.int .u64 (sa:Int),.int .u64 (sb:Int),.int .u64 (sc:Int),.int .u64 (sd:Int)]) (.int .i64 1)).run Tryz.prog u = .ok (.int .u64 (sb:Int)) u:=fun u => index4 sa sb sc sd 1 sb u rfl
 have ix2:∀ u,(Instr.index 130 (.agg #[.int .u64 (sa:Int),.int .u64 (sb:Int),.int .u64 (sc:Int),.int .u64 (sd:Int)]) (.int .i64 2)).run Tryz.prog u = .ok (.int .u64 (sc:Int)) u:=fun u => index4 sa sb sc sd 2 sc u rfl
 have ix3:∀ u,(Instr.index 130 (.agg #[.int .u64 (sa:Int),.int .u64 (sb:Int),.int .u64 (sc:Int),.int .u64 (sd:Int)]) (.int .i64 3)).run Tryz.prog u = .ok (.int .u64 (sd:Int)) u:=fun u => index4 sa sb sc sd 3 sd u rfl
 go_enter Tryz.func184,Tryz.ntmps184
 go_wp2
 go_loopw [7] (fun i wr => ∃ k:Nat,k ≤ 4 ∧ i = .int .i64 k ∧ Hid (Blk wr (w.heap.size + 2) (mixW ⟨ra,rb,rc,rd⟩ ⟨0,0,0,0⟩ k)) ∧ Hid (Blk wr (w.heap.size + 1) noneB) ∧ Below w.heap.size w wr) (fun i _ => 4 - (intOf i).toNat)
 case atStart => exact ⟨0,Nat.zero_le _,rfl,hid (three_blocks w _ _ _).2.2,hid (three_blocks w _ _ _).2.1,bl_step (bl_step (al' w _) (al' _ _)) (al' _ _)⟩
 case round =>
  obtain ⟨k,hk,rfl,bS0,bR0,hbl⟩:=hrel
  have hk5:k = 0 ∨ k = 1 ∨ k = 2 ∨ k = 3 ∨ k = 4:=by omega
  rcases hk5 with rfl | rfl | rfl | rfl | rfl
  · have bS0':Blk wr (w.heap.size + 2) ⟨0,0,0,0⟩:=bS0.out
    obtain ⟨s0,s1,s2,s3,s4,s5,s6,s7⟩:=bS0'.cells
    have bS1:Blk (wr.setCell ⟨w.heap.size + 2,0,none⟩ (.int .u64 (ra:Int))) (w.heap.size + 2) ⟨ra,0,0,0⟩:=heap_setCell bS0'
    have bR1:Blk (wr.setCell ⟨w.heap.size + 2,0,none⟩ (.int .u64 (ra:Int))) (w.heap.size + 1) noneB:=(Below.heap_setCell _ _ _ _ (by simp)).trans bR0.out
    have bS1:=hid bS1
    have bR1:=hid bR1
    clear bS0'
    go_wp2
    go_roundw
    case rel => exact ⟨1,by omega,rfl,bS1,bR1,bl_set hbl _ _ _ (by omega)⟩
    case measure => simp [intOf]
  · have bS0':Blk wr (w.heap.size + 2) ⟨ra,0,0,0⟩:=bS0.out
    obtain ⟨s0,s1,s2,s3,s4,s5,s6,s7⟩:=bS0'.cells
    have bS1:Blk (wr.setCell ⟨w.heap.size + 2,1,none⟩ (.int .u64 (rb:Int))) (w.heap.size + 2) ⟨ra,rb,0,0⟩:=heap_setCell bS0'
    have bR1:Blk (wr.setCell ⟨w.heap.size + 2,1,none⟩ (.int .u64 (rb:Int))) (w.heap.size + 1) noneB:=(Below.heap_setCell _ _ _ _ (by simp)).trans bR0.out
    have bS1:=hid bS1
    have bR1:=hid bR1
    clear bS0'
    go_wp2
    go_roundw
    case rel => exact ⟨2,by omega,rfl,bS1,bR1,bl_set hbl _ _ _ (by omega)⟩
    case measure => simp [intOf]
  · have bS0':Blk wr (w.heap.size + 2) ⟨ra,rb,0,0⟩:=bS0.out
    obtain ⟨s0,s1,s2,s3,s4,s5,s6,s7⟩:=bS0'.cells
    have bS1:Blk (wr.setCell ⟨w.heap.size + 2,2,none⟩ (.int .u64 (rc:Int))) (w.heap.size + 2) ⟨ra,rb,rc,0⟩:=heap_setCell bS0'
    have bR1:Blk (wr.setCell ⟨w.heap.size + 2,2,none⟩ (.int .u64 (rc:Int))) (w.heap.size + 1) noneB:=(Below.heap_setCell _ _ _ _ (by simp)).trans bR0.out
    have bS1:=hid bS1
    have bR1:=hid bR1
    clear bS0'
    go_wp2
    go_roundw
    case rel => exact ⟨3,by omega,rfl,bS1,bR1,bl_set hbl _ _ _ (by omega)⟩
    case measure => simp [intOf]
  · have bS0':Blk wr (w.heap.size + 2) ⟨ra,rb,rc,0⟩:=bS0.out
    obtain ⟨s0,s1,s2,s3,s4,s5,s6,s7⟩:=bS0'.cells
    have bS1:Blk (wr.setCell ⟨w.heap.size + 2,3,none⟩ (.int .u64 (rd:Int))) (w.heap.size + 2) ⟨ra,rb,rc,rd⟩:=heap_setCell bS0'
    have bR1:Blk (wr.setCell ⟨w.heap.size + 2,3,none⟩ (.int .u64 (rd:Int))) (w.heap.size + 1) noneB:=(Below.heap_setCell _ _ _ _ (by simp)).trans bR0.out
    have bS1:=hid bS1
    have bR1:=hid bR1
    clear bS0'
    go_wp2
    go_roundw
    case rel => exact ⟨4,by omega,rfl,bS1,bR1,bl_set hbl _ _ _ (by omega)⟩
    case measure => simp [intOf]
  · obtain ⟨o0,o1,o2,o3,o4,o5,o6,o7⟩:=Blk.cells (show Blk wr (w.heap.size + 2) ⟨ra,rb,rc,rd⟩ from bS0.out)
    obtain ⟨r0,r1,r2,r3,r4,r5,r6,r7⟩:=Blk.cells (sa:=0) (sb:=0) (sc:=0) (sd:=0) bR0.out
    go_wp2
    refine bodyPost_ret (v:=.agg #[.int .u64 ra,.int .u64 rb,.int .u64 rc,.int .u64 rd]) (by simp [results,Tryz.results184,go_sem,r0,r1,r2,r3]) rfl ⟨rfl,bl_put hbl ⟨ra,rb,rc,rd⟩ (by omega)⟩
end Go.Proofs.YtbpnioehmohbcaaGreat
namespace Go.Proofs.YtbpnioehmohbcaaGreat
open Go.RowKit
set_option maxRecDepth 20000 in
theorem bitC (x:Nat) (w:World) (hx:x < 256) :
 Calls Tryz.prog 185 #[.int .u8 (x:Int)] w fun e w' => e = .returned (.int .u64 ((2 ^ (x % 64):Nat):Int)) ∧ w' = w:=by
 have hp:=wrap_pow (j:=x % 64) (by omega)
 have hr:(x:Int) % 64 = ((x % 64:Nat):Int):=by omega
 have hrl:x % 64 < 64:=by omega
 generalize hm:2 ^ (x % 64) = m at hp ⊢
 generalize x % 64 = r at hr hrl hp hm
 go_enter Tryz.func185,Tryz.ntmps185
 go_wp2
 go_ret
 exact ⟨rfl,rfl⟩
set_option maxRecDepth 20000 in
set_option maxHeartbeats 1000000 in
theorem oneC (x:Nat) (w:World) (hx:x < 256) :
 Calls Tryz.prog 180 #[.int .u8 (x:Int)] w fun e w' => e = .returned (valB (spanB x x)) ∧ Below w.heap.size w w':=by
 rw [one_word x hx]
 have GB:=hid (fun u => bitC x u hx)
 have hq:(x:Int) / 64 = ((x / 64:Nat):Int):=by omega
 have hql:x / 64 = 0 ∨ x / 64 = 1 ∨ x / 64 = 2 ∨ x / 64 = 3:=by omega
 generalize hm:2 ^ (x % 64) = m at GB ⊢
 generalize x / 64 = q at hq hql ⊢
 clear hm
 rcases hql with rfl | rfl | rfl | rfl
 · go_enter Tryz.func180,Tryz.ntmps180
   go_wp2_with (go_at_call 185;refine (GB.out _).mono ?_;rintro e u1 ⟨rfl,hu⟩;subst u1)
   exact bodyPost_ret (v:=.agg #[.int .u64 (m:Int),.int .u64 0,.int .u64 0,.int .u64 0]) (by simp [results,Tryz.results180,go_sem]) rfl ⟨rfl,bl_step (al' w _) (al' _ _)⟩
 · go_enter Tryz.func180,Tryz.ntmps180
   go_wp2_with (go_at_call 185;refine (GB.out _).mono ?_;rintro e u1 ⟨rfl,hu⟩;subst u1)
   exact bodyPost_ret (v:=.agg #[.int .u64 0,.int .u64 (m:Int),.int .u64 0,.int .u64 0]) (by simp [results,Tryz.results180,go_sem]) rfl ⟨rfl,bl_step (al' w _) (al' _ _)⟩
 · go_enter Tryz.func180,Tryz.ntmps180
   go_wp2_with (go_at_call 185;refine (GB.out _).mono ?_;rintro e u1 ⟨rfl,hu⟩;subst u1)
   exact bodyPost_ret (v:=.agg #[.int .u64 0,.int .u64 0,.int .u64 (m:Int),.int .u64 0]) (by simp [results,Tryz.results180,go_sem]) rfl ⟨rfl,bl_step (al' w _) (al' _ _)⟩
 · go_enter Tryz.func180,Tryz.ntmps180
   go_wp2_with (go_at_call 185;refine (GB.out _).mono ?_;rintro e u1 ⟨rfl,hu⟩;subst u1)
   exact bodyPost_ret (v:=.agg #[.int .u64 0,.int .u64 0,.int .u64 0,.int .u64 (m:Int)]) (by simp [results,Tryz.results180,go_sem]) rfl ⟨rfl,bl_step (al' w _) (al' _ _)⟩
end Go.Proofs.YtbpnioehmohbcaaGreat
