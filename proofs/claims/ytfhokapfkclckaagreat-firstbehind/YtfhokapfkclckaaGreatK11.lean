/- The reader: a row, rows. The reader: read, which catches faults. Parse. What layer 11 leans on: worlds, rows, texts. -/
import Derived.Test.YtfhokapfkclckaaGreatK10
import Derived.Test.YtfhokapfkclckaaGreatK3
import Derived.Defers
import Derived.Recover
import Derived.WalkKit
import Derived.ProofKit
import Derived.OpenShut
import Derived.Carry
import Derived.Lib.SmallJoins
import Derived.WalkSpells
import Derived.Laws.StructEq
import Derived.ChangeKeysEq
import Derived.Deep.DeepHandedRow
import Derived.Lib.LaidTab
import Derived.Shelf.Spec.TrailingZeros
import Derived.MakeChecks
import Derived.Lib.TrailingZeros
import Derived.Laws.AppendOwnNone
import Derived.Laws.OwnMore
import Derived.Laws.BytesString
import Derived.BigQuiet
import Derived.OwnWalk
import Derived.Deep.RegionHeld3
import Derived.Deep.RegionLaw
import Derived.Deep.OwnRows
import Derived.BigRegion
import Derived.Lib.SlicesCompact
import Derived.Lib.OwnBridge
import Derived.Deep.QuietTactic
import Derived.Deep.AppendLies
import Derived.Maps.AppendAt
import Derived.Maps.OwnSet
import Derived.Deep.DrawnRows
import Derived.WalkMore
import Derived.Lib.QuietBelow
import Derived.WalkLawsBesides
import Derived.Laws.StandIn
import Derived.Lib.Bytealg
import Derived.Laws.BitsAllLaws
import Derived.Laws.Bits128
import Derived.Lib.UnsafeStr
import Derived.Laws.BytesArg
import Derived.Lib.IndexLaws
import Derived.ChangeSlices
import Derived.Deep.Slices
import Derived.WideKeyArr2
import Derived.SizedLaws
namespace Go.Proofs.YtfhokapfkclckaaGreat
open Go.RowKit
set_option maxRecDepth 20000 in
theorem rowEndsR {w:World} {rb:Nat} {s q:Txt} {l:List Cel} (h:Rd w rb s q l) (hs:s.length ≤ 200) :
 Calls Tryz.prog 172 #[.pointer (some ⟨rb,0,none⟩)] w fun e w' => e = .returned (.bool (rowEnd q)) ∧ Rd w' rb s q l ∧ Below rb w w':=by
 have hlt:=h.lt
 have h':=h
 obtain ⟨v,h1,h2,h3⟩:=h
 exact (rowEndsC h1 hs).mono fun e w' hh => ⟨hh.1,h'.keep hh.2,low hlt hh.2⟩
theorem pieceP_lt {q r:Txt} {t:Rx} (h:pieceP q = some (t,r)):r.length < q.length:=by
 unfold pieceP at h
 cases e:atomP q with
 | none => rw [e] at h;cases h
 | some x =>
  obtain ⟨t',q'⟩:=x
  have h1:=atomP_lt e
  have h2:=stars_le q' t'
  rw [e] at h
  injection h with h
  rw [h] at h2
  simp at h2
  omega
set_option maxRecDepth 20000 in
set_option maxHeartbeats 4000000 in
theorem rowC {n:Nat} (H:RowsOK n) {w:World} {rb:Nat} {s q:Txt} {l:List Cel} {M:Nat} (h:Rd w rb s q l) (hs:s.length ≤ 200) (hn:q.length ≤ n) (hM:l.length + 2 * q.length ≤ M) (hM1:M ≤ 1000) :
 Calls Tryz.prog 164 #[.pointer (some ⟨rb,0,none⟩)] w (Red (rowP q) w rb s l M):=by
 have GA:=hid (pieceC H h hs hn hM hM1)
 rw [rowP_piece]
 cases e1:pieceP q with
 | none =>
  rw [e1] at GA
  show Calls _ _ _ _ (Red none w rb s l M)
  clear h e1
  go_enter Tryz.func164,Tryz.ntmps164
  go_wp2_with (go_at_call 171;refine GA.out.mono ?_;intro e w1 hw1;obtain ⟨⟨n1,he1,hn1⟩,hb1⟩:=hw1.no;subst he1)
  exact ⟨rfl,⟨_,rfl,hn1⟩,hb1⟩
 | some x =>
  obtain ⟨t,r⟩:=x
  have hlt:=pieceP_lt e1
  rw [e1] at GA
  show Calls _ _ _ _ (Red (moreP t r) w rb s l M)
  obtain ⟨R,hR⟩:∃ R,Hid (moreP t r = R):=⟨_,hid rfl⟩
  rw [hR.out]
  clear h e1
  go_enter Tryz.func164,Tryz.ntmps164
  go_wp2_with (go_at_call 171;refine GA.out.mono ?_;intro e w1 hw1;obtain ⟨he1,hr1,hm1,hb1⟩:=hw1.yes;subst he1;have hr1:=hid hr1;have hm1:=hid hm1)
  go_loopw [] (fun wr => ∃ a q',Hid (Rd wr rb s q' (l ++ post a)) ∧ Hid (moreP a q' = R) ∧ Hid ((l ++ post a).length + 1 + 2 * q'.length ≤ M) ∧ q'.length ≤ n ∧ Below rb w wr) (fun wr => plcN wr rb s.length)
  case atStart => exact ⟨t,r,hr1,hR,hm1,by omega,hb1⟩
  case round =>
   obtain ⟨a,q',hrd,hst,hmm,hnq,hbw⟩:=hrel
   have hmu:=hid hrd.out.left
   clear hR hr1 hm1 GA
   have GE:=hid (rowEndsR hrd.out hs)
   have hst':=hst.out
   rw [moreP_piece] at hst'
   cases hre:rowEnd q' with
   | true =>
    rw [hre] at GE hst'
    have hst2:Hid (R = some (a,q')):=hid (hst'.symm)
    clear hst' hre hst
    go_wp2_with (go_at_call 172;refine GE.out.mono ?_;rintro e w2 ⟨rfl,hr2,hb2⟩;have hr2:=hid hr2)
    first | go_end0 | refine bodyPost_ret (results_none rfl _ _ _) rfl ?_
    exact Red.mk_yes hst2.out hr2.out hmm.out (hbw.trans hb2)
   | false =>
    rw [hre] at GE hst'
    have hst1:(match pieceP q' with
     | some (t,r) => moreP (.cat a t) r
     | none => none) = R:=hst'
    have hmm':=hmm.out
    have GP:=hid (fun u (hu:Rd u rb s q' (l ++ post a)) => pieceC H hu hs hnq (M:=M - 1) (by omega) (by omega))
    clear hst' hre hst hmm'
    cases e2:pieceP q' with
    | none =>
     rw [e2] at GP hst1
     have hst2:Hid (R = none):=hid hst1.symm
     clear hst1 e2
     go_wp2_with (first
      | (go_at_call 172;refine GE.out.mono ?_;rintro e w2 ⟨rfl,hr2,hb2⟩;have hr2:=hid hr2)
      | (go_at_call 171;refine (GP.out _ hr2.out).mono ?_;intro e w3 hw3;obtain ⟨⟨n3,he3,hn3⟩,hb3⟩:=hw3.no;subst he3))
     exact ⟨rfl,Red.mk_no hst2.out hn3 ((hbw.trans hb2).trans hb3)⟩
    | some y =>
     obtain ⟨t2,r2⟩:=y
     have hlt2:=hid (pieceP_lt e2)
     rw [e2] at GP hst1
     have hst2:Hid (moreP (.cat a t2) r2 = R):=hid hst1
     have G2:=hid (fun u (hu:Rd u rb s r2 ((l ++ post a) ++ post t2)) (hl:((l ++ post a) ++ post t2).length ≤ 1000) => putC hu (by omega) 3 (by decide) (by decide))
     clear hst1 e2
     go_wp2_with (first
      | (go_at_call 172;refine GE.out.mono ?_;rintro e w2 ⟨rfl,hr2,hb2⟩;have hr2:=hid hr2)
      | (go_at_call 171;refine (GP.out _ hr2.out).mono ?_;intro e w3 hw3;obtain ⟨he3,hr3,hm3,hb3⟩:=hw3.yes;subst he3;have hr3:=hid hr3;have hm3':=hid (show (l ++ post a ++ post t2).length ≤ 1000 by omega);have hm3:=hid hm3)
      | (go_at_call 166;refine (G2.out _ hr3.out hm3'.out).mono ?_;rintro e w4 ⟨rfl,hr4,hb4⟩;have hr4:=hid hr4))
     have hr5:Rd w4 rb s r2 (l ++ post (.cat a t2)):=by rw [show l ++ post (.cat a t2) = ((l ++ post a) ++ post t2) ++ [⟨3,noneB⟩] by simp [post]];exact hr4.out
     go_roundw
     case rel =>
      have h1:=hm3.out
      have h2:=hlt2.out
      refine ⟨.cat a t2,r2,hid hr5,hst2,hid ?_,by omega,((hbw.trans hb2).trans hb3).trans hb4⟩
      rw [show l ++ post (.cat a t2) = ((l ++ post a) ++ post t2) ++ [⟨3,noneB⟩] by simp [post],List.length_append]
      simp only [List.length_cons,List.length_nil]
      omega
     case measure =>
      rw [hmu.out,hr5.left]
      exact hlt2.out
set_option maxRecDepth 20000 in
set_option maxHeartbeats 4000000 in
theorem rowsN {n:Nat} (H:RowsOK n) {w:World} {rb:Nat} {s q:Txt} {l:List Cel} {M:Nat} (h:Rd w rb s q l) (hs:s.length ≤ 200) (hn:q.length ≤ n) (hM:l.length + 2 * q.length ≤ M) (hM1:M ≤ 1000) :
 Calls Tryz.prog 158 #[.pointer (some ⟨rb,0,none⟩)] w (Red (rowsP q) w rb s l M):=by
 have GA:=hid (rowC H h hs hn hM hM1)
 rw [rowsP_eq]
 cases e1:rowP q with
 | none =>
  rw [e1] at GA
  show Calls _ _ _ _ (Red none w rb s l M)
  clear h e1
  go_enter Tryz.func158,Tryz.ntmps158
  go_wp2_with (go_at_call 164;refine GA.out.mono ?_;intro e w1 hw1;obtain ⟨⟨n1,he1,hn1⟩,hb1⟩:=hw1.no;subst he1)
  exact ⟨rfl,⟨_,rfl,hn1⟩,hb1⟩
 | some x =>
  obtain ⟨t,r⟩:=x
  have hlt:=rowP_lt e1
  rw [e1] at GA
  show Calls _ _ _ _ (Red (orsP t r) w rb s l M)
  obtain ⟨R,hR⟩:∃ R,Hid (orsP t r = R):=⟨_,hid rfl⟩
  rw [hR.out]
  clear h e1
  go_enter Tryz.func158,Tryz.ntmps158
  go_wp2_with (go_at_call 164;refine GA.out.mono ?_;intro e w1 hw1;obtain ⟨he1,hr1,hm1,hb1⟩:=hw1.yes;subst he1;have hr1:=hid hr1;have hm1:=hid hm1)
  go_loopw [] (fun wr => ∃ a q',Hid (Rd wr rb s q' (l ++ post a)) ∧ Hid (orsP a q' = R) ∧ Hid ((l ++ post a).length + 1 + 2 * q'.length ≤ M) ∧ q'.length ≤ n ∧ Below rb w wr) (fun wr => plcN wr rb s.length)
  case atStart => exact ⟨t,r,hr1,hR,hm1,by omega,hb1⟩
  case round =>
   obtain ⟨a,q',hrd,hst,hmm,hnq,hbw⟩:=hrel
   have hmu:=hid hrd.out.left
   clear hR hr1 hm1 GA
   by_cases c1:q'.head? = some 124
   · obtain ⟨q2,rfl⟩:=head_is c1
     have GE:=hid (takeY hrd.out hs)
     rw [show ((124:UInt8).toNat:Int) = 124 from rfl] at GE
     have hst':=hst.out
     rw [orsP_eq] at hst'
     have hst1:(match rowP q2 with
      | some (t,q) => orsP (.or a t) q
      | none => none) = R:=hst'
     have hmm':=hmm.out
     simp only [List.length_cons] at hmm' hnq
     have GP:=hid (fun u (hu:Rd u rb s q2 (l ++ post a)) => rowC H hu hs (by omega) (M:=M - 1) (by omega) (by omega))
     clear hst' hst c1 hmm'
     cases e2:rowP q2 with
     | none =>
      rw [e2] at GP hst1
      have hst2:Hid (R = none):=hid hst1.symm
      clear hst1 e2
      go_wp2_with (first
       | (go_at_call 165;refine GE.out.mono ?_;rintro e w2 ⟨rfl,hr2,hb2⟩;have hr2:=hid hr2)
       | (go_at_call 164;refine (GP.out _ hr2.out).mono ?_;intro e w3 hw3;obtain ⟨⟨n3,he3,hn3⟩,hb3⟩:=hw3.no;subst he3))
      exact ⟨rfl,Red.mk_no hst2.out hn3 ((hbw.trans hb2).trans hb3)⟩
     | some y =>
      obtain ⟨t2,r2⟩:=y
      have hlt2:=hid (rowP_lt e2)
      rw [e2] at GP hst1
      have hst2:Hid (orsP (.or a t2) r2 = R):=hid hst1
      have G2:=hid (fun u (hu:Rd u rb s r2 ((l ++ post a) ++ post t2)) (hl:((l ++ post a) ++ post t2).length ≤ 1000) => putC hu (by omega) 4 (by decide) (by decide))
      clear hst1 e2
      go_wp2_with (first
       | (go_at_call 165;refine GE.out.mono ?_;rintro e w2 ⟨rfl,hr2,hb2⟩;have hr2:=hid hr2)
       | (go_at_call 164;refine (GP.out _ hr2.out).mono ?_;intro e w3 hw3;obtain ⟨he3,hr3,hm3,hb3⟩:=hw3.yes;subst he3;have hr3:=hid hr3;have hm3':=hid (show (l ++ post a ++ post t2).length ≤ 1000 by omega);have hm3:=hid hm3)
       | (go_at_call 166;refine (G2.out _ hr3.out hm3'.out).mono ?_;rintro e w4 ⟨rfl,hr4,hb4⟩;have hr4:=hid hr4))
      have hr5:Rd w4 rb s r2 (l ++ post (.or a t2)):=by rw [show l ++ post (.or a t2) = ((l ++ post a) ++ post t2) ++ [⟨4,noneB⟩] by simp [post]];exact hr4.out
      go_roundw
      case rel =>
       have h1:=hm3.out
       have h2:=hlt2.out
       refine ⟨.or a t2,r2,hid hr5,hst2,hid ?_,by omega,((hbw.trans hb2).trans hb3).trans hb4⟩
       rw [show l ++ post (.or a t2) = ((l ++ post a) ++ post t2) ++ [⟨4,noneB⟩] by simp [post],List.length_append]
       simp only [List.length_cons,List.length_nil]
       omega
      case measure =>
       have h2:=hlt2.out
       rw [hmu.out,hr5.left]
       simp only [List.length_cons]
       omega
   · have hno:(q'.head? == some 124) = false:=by simpa using c1
     have GE:=hid (takeN hrd.out hs 124 hno)
     rw [show ((124:UInt8).toNat:Int) = 124 from rfl] at GE
     have hst':=hst.out
     rw [orsP_eq,hno] at hst'
     have hst2:Hid (R = some (a,q')):=hid hst'.symm
     clear hst' hst c1 hno
     go_wp2_with (go_at_call 165;refine GE.out.mono ?_;rintro e w2 ⟨rfl,hr2,hb2⟩;have hr2:=hid hr2)
     first | go_end0 | refine bodyPost_ret (results_none rfl _ _ _) rfl ?_
     exact Red.mk_yes hst2.out hr2.out hmm.out (hbw.trans hb2)
theorem rowsOK:∀ n,RowsOK n
 | 0 => fun _ _ _ _ _ _ _ _ h _ _ => absurd h (Nat.not_lt_zero _)
 | n + 1 => fun _ _ _ _ _ _ h hs hn hM hM1 => rowsN (rowsOK n) h hs (Nat.le_of_lt_succ hn) hM hM1
set_option maxRecDepth 20000 in
theorem rowsC {w:World} {rb:Nat} {s q:Txt} {l:List Cel} {M:Nat} (h:Rd w rb s q l) (hs:s.length ≤ 200) (hM:l.length + 2 * q.length ≤ M) (hM1:M ≤ 1000) :
 Calls Tryz.prog 158 #[.pointer (some ⟨rb,0,none⟩)] w (Red (rowsP q) w rb s l M):=rowsOK (q.length + 1) w rb s q l M h hs (Nat.lt_succ_self _) hM hM1
set_option maxRecDepth 20000 in
theorem catch_fault (b:Nat) (n:Int) (x0 x1 x2:Value) (w:World) (h0:w.heap[b]? = some (.cells #[x0] 47 (0,0))) (h1:w.heap[b + 1]? = some (.cells #[x1] 3 (0,0))) (h2:w.heap[b + 2]? = some (.cells #[x2] 44 (0,0))) :
 CallsD Tryz.prog 157 #[.pointer (some ⟨b,0,none⟩),.pointer (some ⟨b + 1,0,none⟩),.pointer (some ⟨b + 2,0,none⟩)] (.panicking [{ v:=.iface 174 (.int .i64 n),recovered:=false }]) w fun e u' w' =>
  e = .returned (.tuple #[]) ∧ u' = .panicking [{ v:=.iface 174 (.int .i64 n),recovered:=true }] ∧ (w'.cell? ⟨b,0,none⟩ = some (.slice none 0 0) ∧ w'.cell? ⟨b + 1,0,none⟩ = some (.int .i64 n) ∧ w'.cell? ⟨b + 2,0,none⟩ = some (.int .i64 1)) ∧ Below b w w':=by
 have c0:=blk_cell (o:=0) (v:=x0) h0 rfl
 have c1:=blk_cell (o:=0) (v:=x1) h1 rfl
 have c2:=blk_cell (o:=0) (v:=x2) h2 rfl
 have f0:=blk_frozen h0 0
 have f1:=blk_frozen h1 0
 have f2:=blk_frozen h2 0
 have ha:∀ u:World,(Instr.typeAssert (.iface 174 (.int .i64 n)) 20 174 false).run Tryz.prog u = .ok (.int .i64 n) u:=fun u => by kernel_rfl
 refine callsD_of_wpS Tryz.func157 rfl fun c₀ cs hu => ?_
 apply wpS_seq
 apply wpS_region
 simp [wpOpsS,go_sem,recoverD,hu,Tryz.ntmps157,Exit.thenS]
 refine wpS_of_wp ?_
 rw [show (#[Value.pointer (some ⟨b,0,none⟩),.pointer (some ⟨b + 1,0,none⟩),.pointer (some ⟨b + 2,0,none⟩)] ++ ((Array.replicate 6 undef).setIfInBounds 1 (Value.iface 174 (.int .i64 n))).setIfInBounds 0 (Value.iface 174 (.int .i64 n))) = #[Value.pointer (some ⟨b,0,none⟩),.pointer (some ⟨b + 1,0,none⟩),.pointer (some ⟨b + 2,0,none⟩),.iface 174 (.int .i64 n),.iface 174 (.int .i64 n),undef,undef,undef,undef] from rfl]
 go_wp2_with fail
 go_region_with (fail)
 all_goals
  go_wp2
  exact ⟨rfl,_,rfl,.tuple #[],by simp [results,Tryz.results157],rfl,rfl,⟨by simp [go_sem,c0],by simp [go_sem,c1],by simp [go_sem,c2]⟩,(bl_set (bl_set (bl_set (Below.refl _ _) b 0 _ (Nat.le_refl _)) (b + 1) 0 _ (by omega)) (b + 2) 0 _ (by omega)).drew⟩
set_option maxRecDepth 20000 in
theorem catch_idle (p q r:Addr) (w:World) :
 CallsD Tryz.prog 157 #[.pointer (some p),.pointer (some q),.pointer (some r)] .returning w fun e u' w' => e = .returned (.tuple #[]) ∧ u' = .returning ∧ w' = w:=by
 refine callsD_of_wpS Tryz.func157 rfl fun c₀ cs hu => ?_
 apply wpS_seq
 apply wpS_region
 simp [wpOpsS,go_sem,recoverD,hu,Tryz.ntmps157,Exit.thenS]
 refine wpS_of_wp ?_
 rw [show (#[Value.pointer (some p),.pointer (some q),.pointer (some r)] ++ ((Array.replicate 6 undef).setIfInBounds 1 Value.nilIface).setIfInBounds 0 Value.nilIface) = #[Value.pointer (some p),.pointer (some q),.pointer (some r),.nilIface,.nilIface,undef,undef,undef,undef] from rfl]
 go_wp2
 refine ⟨rfl,.returning,?_,.tuple #[],by simp [results,Tryz.results157],rfl,rfl,rfl⟩
 cases c₀
 simp_all
def readW (w:World) (s:Txt):World:=(((w.alloc (.cells #[.slice none 0 0] 47)).alloc (.cells #[.int .i64 0] 3)).alloc (.cells #[.int .i64 0] 44)).alloc (.cells #[.string (strT s),.int .i64 0,.slice none 0 0] 176)
theorem readW_below (w:World) (s:Txt):Below w.heap.size w (readW w s):=bl_step (bl_step (bl_step (al' w _) (al' _ _)) (al' _ _)) (al' _ _)
theorem readW_rd (w:World) (s:Txt):Rd (readW w s) (w.heap.size + 3) s s []:=by
 obtain ⟨h0,h1,h2,h3⟩:=four_blocks w (.cells #[.slice none 0 0] 47) (.cells #[.int .i64 0] 3) (.cells #[.int .i64 0] 44) (.cells #[.string (strT s),.int .i64 0,.slice none 0 0] 176)
 exact ⟨.slice none 0 0,⟨[],rfl,h3⟩,World.ownsRow_nil _ _ _ _,fun c hc => by cases hc⟩
set_option maxRecDepth 20000 in
set_option maxHeartbeats 2000000 in
theorem readOk (s:Txt) (t:Rx) (w:World) (hs:s.length ≤ 200) (hr:rowsP s = some (t,[])) :
 Calls Tryz.prog 144 #[.string (strT s)] w fun e w' => ∃ v,e = .returned (.tuple #[v,.int .i64 0,.int .i64 0]) ∧ Cels w' v (post t) ∧ Below w.heap.size w w':=by
 have hmf:∀ (fn:Fn) (first cap:Array Value) (w:World),(Instr.makeFunc fn first cap).run Tryz.prog w = .ok (.func fn first cap) w:=fun _ _ _ _ => rfl
 have G:=rowsC (M:=400) (readW_rd w s) hs (by simp;omega) (by omega)
 rw [hr] at G
 have G:=hid G
 obtain ⟨h0,h1,h2,h3⟩:=four_blocks w (.cells #[.slice none 0 0] 47) (.cells #[.int .i64 0] 3) (.cells #[.int .i64 0] 44) (.cells #[.string (strT s),.int .i64 0,.slice none 0 0] 176)
 have hsz:(readW w s).heap.size = w.heap.size + 4:=by simp [readW]
 have hpl:plc s [] = (s.length:Int):=by simp [plc]
 have hS:=strT_size s
 have HE:Hid (∀ w1,Red (some (t,[])) (readW w s) (w.heap.size + 3) s [] 400 (.returned (.tuple #[])) w1 → ∃ ad cap,(w1.cell? ⟨w.heap.size + 3,1,none⟩ = some (.int .i64 (s.length:Int)) ∧ w1.cell? ⟨w.heap.size + 3,2,none⟩ = some (.slice ad (post t).length cap) ∧ w1.heap[w.heap.size]? = some (.cells #[.slice none 0 0] 47 (0,0)) ∧ w1.heap[w.heap.size + 1]? = some (.cells #[.int .i64 0] 3 (0,0)) ∧ w1.heap[w.heap.size + 2]? = some (.cells #[.int .i64 0] 44 (0,0))) ∧ (∀ c ∈ post t,FitC c) ∧ OwnC w1 (w.heap.size + 3) (.slice ad (post t).length cap) (post t) ∧ Below w.heap.size w w1):=hid (fun w1 hw => by
  obtain ⟨-,hrd,-,hb⟩:=hw.yes
  have hp:=hrd.place
  rw [hpl] at hp
  obtain ⟨v,hat,ho,hf⟩:=hrd
  obtain ⟨k,hbk⟩:=hat.blk
  have hC:=Cels.of_own (l:=post t) ho hf
  obtain ⟨ad,cap,rfl⟩:∃ ad cap,v = .slice ad (post t).length cap:=by obtain ⟨a,c,e,_⟩:=hC;exact ⟨a,c,e⟩
  refine ⟨ad,cap,⟨hp,(rd3 hbk).2.2.1,(hb.block _ (by omega)).trans h0,(hb.block _ (by omega)).trans h1,(hb.block _ (by omega)).trans h2⟩,hf,ho,?_⟩
  exact (readW_below w s).trans (hb.mono (by omega)))
 unfold readW at G HE
 generalize strT s = S at G HE hS
 clear h0 h1 h2 h3 hsz hpl hr
 go_enter_defers Tryz.func144,Tryz.ntmps144
 go_wp2_with (go_at_call 158;refine G.out.mono ?_;intro e w1 hw1;obtain ⟨he1,-,-,-⟩:=hw1.yes;subst he1;obtain ⟨ad,cap,⟨c1,c2,k0,k1,k2⟩,hC,hO,hb⟩:=HE.out w1 hw1;have hC:=hid hC;have hO:=hid hO;have d0:=blk_cell (o:=0) (v:=.slice none 0 0) k0 rfl;have d1:=blk_cell (o:=0) (v:=.int .i64 0) k1 rfl;have d2:=blk_cell (o:=0) (v:=.int .i64 0) k2 rfl;have f0:=blk_frozen k0 0;have f1:=blk_frozen k1 0;have f2:=blk_frozen k2 0;clear k0 k1 k2)
 refine leaves_cons (f:=157) (args:=#[.pointer (some ⟨w.heap.size,0,none⟩),.pointer (some ⟨w.heap.size + 1,0,none⟩),.pointer (some ⟨w.heap.size + 2,0,none⟩)]) (by simp) (by simp [go_sem]) ?_
 refine (catch_idle _ _ _ _).mono ?_
 rintro e u' w'' ⟨rfl,rfl,rfl⟩
 have hO':OwnC (((w1.setCell ⟨w.heap.size,0,none⟩ (.slice ad (post t).length cap)).setCell ⟨w.heap.size + 1,0,none⟩ (.int .i64 0)).setCell ⟨w.heap.size + 2,0,none⟩ (.int .i64 0)) (w.heap.size + 3) (.slice ad (post t).length cap) (post t):=own_keep hO.out fun k hk => by
  have:=(hO.out.lt k hk).1
  rw [Below.heap_setCell _ _ _ _ (by simp;omega),Below.heap_setCell _ _ _ _ (by simp;omega),Below.heap_setCell _ _ _ _ (by simp;omega)]
 refine ⟨.tuple #[.slice ad (post t).length cap,.int .i64 0,.int .i64 0],by simp [results,Tryz.results144,go_sem,d0,d1,d2],_,rfl,Cels.of_own (l:=post t) hO' hC.out,?_⟩
 exact bl_set (bl_set (bl_set hb _ 0 _ (Nat.le_refl _)) _ 0 _ (by omega)) _ 0 _ (by omega)
set_option maxRecDepth 20000 in
set_option maxHeartbeats 2000000 in
theorem readBad (s:Txt) (w:World) (hs:s.length ≤ 200) (hr:∀ t,rowsP s ≠ some (t,[])) :
 Calls Tryz.prog 144 #[.string (strT s)] w fun e w' => ∃ n,e = .returned (.tuple #[.slice none 0 0,.int .i64 n,.int .i64 1]) ∧ (s = [40,97] → n = 2) ∧ Below w.heap.size w w':=by
 have hmf:∀ (fn:Fn) (first cap:Array Value) (w:World),(Instr.makeFunc fn first cap).run Tryz.prog w = .ok (.func fn first cap) w:=fun _ _ _ _ => rfl
 have G:=rowsC (M:=400) (readW_rd w s) hs (by simp;omega) (by omega)
 obtain ⟨h0,h1,h2,h3⟩:=four_blocks w (.cells #[.slice none 0 0] 47) (.cells #[.int .i64 0] 3) (.cells #[.int .i64 0] 44) (.cells #[.string (strT s),.int .i64 0,.slice none 0 0] 176)
 have hsz:(readW w s).heap.size = w.heap.size + 4:=by simp [readW]
 have HB:Hid (∀ w1,Below (w.heap.size + 3) (readW w s) w1 → (w1.heap[w.heap.size]? = some (.cells #[.slice none 0 0] 47 (0,0)) ∧ w1.heap[w.heap.size + 1]? = some (.cells #[.int .i64 0] 3 (0,0)) ∧ w1.heap[w.heap.size + 2]? = some (.cells #[.int .i64 0] 44 (0,0))) ∧ Below w.heap.size w w1):=hid (fun w1 hb => ⟨⟨(hb.block _ (by omega)).trans h0,(hb.block _ (by omega)).trans h1,(hb.block _ (by omega)).trans h2⟩,(readW_below w s).trans (hb.mono (by omega))⟩)
 have hS:=strT_size s
 cases e1:rowsP s with
 | none =>
  rw [e1] at G
  have G':=hid G
  unfold readW at G' HB
  generalize strT s = S at G' HB hS
  clear h0 h1 h2 h3 hsz hr e1 G
  go_enter_defers Tryz.func144,Tryz.ntmps144
  go_wp2_with (go_at_call 158;refine G'.out.mono ?_;intro e w1 hw1;obtain ⟨⟨n1,he1,hn1⟩,hb1⟩:=hw1.no;subst he1;obtain ⟨⟨k0,k1,k2⟩,hb⟩:=HB.out w1 hb1;have k0:=hid k0;have k1:=hid k1;have k2:=hid k2)
  refine leaves_cons (f:=157) (args:=#[.pointer (some ⟨w.heap.size,0,none⟩),.pointer (some ⟨w.heap.size + 1,0,none⟩),.pointer (some ⟨w.heap.size + 2,0,none⟩)]) (by simp) (by simp [go_sem]) ?_
  refine (catch_fault w.heap.size n1 _ _ _ _ k0.out k1.out k2.out).mono ?_
  rintro e u' w'' ⟨rfl,rfl,⟨q0,q1,q2⟩,hbw⟩
  exact ⟨.tuple #[.slice none 0 0,.int .i64 n1,.int .i64 1],by simp [results,Tryz.results144,go_sem,q0,q1,q2],n1,rfl,hn1,hb.trans hbw⟩
 | some x =>
  obtain ⟨t,q⟩:=x
  rw [e1] at G
  have hq:q ≠ []:=fun e => hr t (by rw [e1,e])
  have hqp:0 < q.length:=List.length_pos_iff.2 hq
  have hn2:s = [40,97] → False:=fun he => by subst he;cases e1
  have hlt:plc s q < (s.length:Int):=by unfold plc;omega
  have HP:=hid (fun w1 (h:Rd w1 (w.heap.size + 3) s q ([] ++ post t)) => h.place)
  generalize plc s q = p at hlt HP
  have G':=hid G
  unfold readW at G' HB
  generalize strT s = S at G' HB hS
  clear h0 h1 h2 h3 hsz hr e1 G hq hqp
  go_enter_defers Tryz.func144,Tryz.ntmps144
  go_wp2_with (go_at_call 158;refine G'.out.mono ?_;intro e w1 hw1;obtain ⟨he1,hrd1,-,hb1⟩:=hw1.yes;subst he1;have c1:=HP.out w1 hrd1;obtain ⟨⟨k0,k1,k2⟩,hb⟩:=HB.out w1 hb1;have k0:=hid k0;have k1:=hid k1;have k2:=hid k2)
  refine leaves_cons (f:=157) (args:=#[.pointer (some ⟨w.heap.size,0,none⟩),.pointer (some ⟨w.heap.size + 1,0,none⟩),.pointer (some ⟨w.heap.size + 2,0,none⟩)]) (by simp) (by simp [go_sem]) ?_
  refine (catch_fault w.heap.size p _ _ _ _ k0.out k1.out k2.out).mono ?_
  rintro e u' w'' ⟨rfl,rfl,⟨q0,q1,q2⟩,hbw⟩
  exact ⟨.tuple #[.slice none 0 0,.int .i64 p,.int .i64 1],by simp [results,Tryz.results144,go_sem,q0,q1,q2],p,rfl,fun he => (hn2 he).elim,hb.trans hbw⟩
set_option maxRecDepth 20000 in
theorem parseLong (s:Txt) (w:World) (hs:200 < s.length):Calls Tryz.prog 123 #[.string (strT s)] w fun e w' => ∃ a c,e = .returned (.tuple #[.slice a 0 c,.int .i64 0,.int .i64 3]) ∧ Below w.heap.size w w':=by
 have hS:=strT_size s
 have hz:(200:Int) < ((strT s).size:Int):=by omega
 generalize strT s = S at hS hz
 clear hS hs
 go_enter Tryz.func123,Tryz.ntmps123
 go_wp2
 refine bodyPost_ret (v:=.tuple #[.slice none 0 0,.int .i64 0,.int .i64 3]) (by simp [results,Tryz.results123,go_sem]) rfl ⟨none,0,rfl,Below.refl _ _⟩
set_option maxRecDepth 20000 in
theorem parseBad (s:Txt) (w:World) (hs:s.length ≤ 200) (hr:∀ t,rowsP s ≠ some (t,[])):Calls Tryz.prog 123 #[.string (strT s)] w fun e w' => ∃ a c n,e = .returned (.tuple #[.slice a 0 c,.int .i64 n,.int .i64 1]) ∧ (s = [40,97] → n = 2) ∧ Below w.heap.size w w':=by
 have G:=hid (readBad s w hs hr)
 have hS:=strT_size s
 have hz:¬ (200:Int) < ((strT s).size:Int):=by omega
 have hzz:(strT s).size ≤ 200:=by omega
 generalize strT s = S at hS hz G hzz
 clear hr hS
 go_enter Tryz.func123,Tryz.ntmps123
 go_wp2_with (go_at_call 144;refine G.out.mono ?_;rintro e w1 ⟨n,rfl,hn,hb⟩)
 refine bodyPost_ret (v:=.tuple #[.slice none 0 0,.int .i64 n,.int .i64 1]) (by simp [results,Tryz.results123,go_sem]) rfl ⟨none,0,n,rfl,hn,hb⟩
set_option maxRecDepth 20000 in
theorem parseFull (s:Txt) (t:Rx) (w:World) (hs:s.length ≤ 200) (hr:rowsP s = some (t,[])) (hl:60 < (post t).length):Calls Tryz.prog 123 #[.string (strT s)] w fun e w' => ∃ a c,e = .returned (.tuple #[.slice a 0 c,.int .i64 0,.int .i64 3]) ∧ Below w.heap.size w w':=by
 have G0:=readOk s t w hs hr
 have hS:=strT_size s
 have hz:¬ (200:Int) < ((strT s).size:Int):=by omega
 have hzz:(strT s).size ≤ 200:=by omega
 have G:Hid (Calls Tryz.prog 144 #[.string (strT s)] w fun e w' => ∃ a c,e = .returned (.tuple #[.slice a (post t).length c,.int .i64 0,.int .i64 0]) ∧ Below w.heap.size w w'):=hid (G0.mono fun e w' ⟨v,he,hc,hb⟩ => by
  obtain ⟨a,c,hv,_⟩:=hc
  subst hv
  exact ⟨a,c,he,hb⟩)
 generalize strT s = S at hS hz G hzz
 have hlz:(60:Int) < ((post t).length:Int):=by omega
 generalize (post t).length = L at G hlz
 clear hr hS G0 hl
 go_enter Tryz.func123,Tryz.ntmps123
 go_wp2_with (go_at_call 144;refine G.out.mono ?_;rintro e w1 ⟨a,c,rfl,hb⟩)
 refine bodyPost_ret (v:=.tuple #[.slice none 0 0,.int .i64 0,.int .i64 3]) (by simp [results,Tryz.results123,go_sem]) rfl ⟨none,0,rfl,hb⟩
end Go.Proofs.YtfhokapfkclckaaGreat
namespace Go.Proofs.YtfhokapfkclckaaGreat
open Go.ChangeShapes Go.WideShapes Go.ChangeAt Go.RowKit Go.Sort Go.Maps Go.Lib
theorem Kept.of_grown {w w':World} {r:Option Nat} (h:w.grownBy w' r):Kept (fun k => r = some k) w w':=by
 obtain ⟨h1,h2,h3,h4,h5⟩:=h
 exact ⟨by assumption,by assumption,by assumption,by assumption,fun k hk hn => h5 k hk (fun e => hn (by first | exact e | exact e.symm))⟩
theorem own_kept {F:Nat → Prop} {w w':World} {base size n:Nat} {e:TypeId} {v:Value} {xs:List Value} (h:w.ownsRow base e size v n xs) (hk:Kept F w w') (ho:∀ k,v.ownBlock = some k → ¬ F k):w'.ownsRow base e size v n xs:=
 own_keep h fun k e => hk.block k (h.lt k e).2 (ho k e)
theorem hs_keep {w w':World} {b:Nat} {x:Obj} (h:w.heap[b]? = some x) (hb:Below w.heap.size w w'):w'.heap[b]? = some x:=(hb.block b (blk_lt h)).trans h
theorem own_shape {w:World} {B n size:Nat} {e:TypeId} {v:Value} {xs:List Value} (h:w.ownsRow B e size v n xs):∃ a c,v = .slice a n c:=by
 rcases h.2 with ⟨rfl,h0⟩ | ⟨g,cap,cur,rfl,_⟩
 · exact ⟨none,0,by rw [h0]⟩
 · exact ⟨_,_,rfl⟩
theorem own_form3 {w:World} {B n size:Nat} {e:TypeId} {v:Value} {xs:List Value} (h:w.ownsRow B e size v n xs) (hn:0 < n):∃ g cap,v = .slice (some ⟨g,0,none⟩) n cap ∧ n ≤ cap:=by
 rcases h.2 with ⟨rfl,h0⟩ | ⟨g,cap,cur,rfl,_,_,hc,_⟩
 · omega
 · exact ⟨g,cap,rfl,hc⟩
theorem own_set {w:World} {pb o size n B:Nat} {e:TypeId} {v x:Value} {xs:List Value} (h:w.ownsRow B e size v n xs) (hn:v.ownBlock ≠ some pb):(w.setCell ⟨pb,o,none⟩ x).ownsRow B e size v n xs:=
 own_keep h fun k hk => Below.heap_setCell w ⟨pb,o,none⟩ x k (fun e => hn (by rw [hk,e]))
theorem cells3m {w:World} {b t:Nat} {x y z:Value} (h:w.heap[b]? = some (.cells #[x,y,z] t (0,0))):(w.cell? ⟨b,0,none⟩ = some x ∧ w.frozen? ⟨b,0,none⟩ = false) ∧ (w.cell? ⟨b,1,none⟩ = some y ∧ w.frozen? ⟨b,1,none⟩ = false) ∧ (w.cell? ⟨b,2,none⟩ = some z ∧ w.frozen? ⟨b,2,none⟩ = false):=by
 refine ⟨⟨?_,?_⟩,⟨?_,?_⟩,⟨?_,?_⟩⟩ <;> simp [World.cell?,World.frozen?,h]
theorem set3_0 {w:World} {b t:Nat} {x y z v:Value} (h:w.heap[b]? = some (.cells #[x,y,z] t (0,0))):(w.setCell ⟨b,0,none⟩ v).heap[b]? = some (.cells #[v,y,z] t (0,0)):=by
 exact heap_setCell h
theorem set3_1 {w:World} {b t:Nat} {x y z v:Value} (h:w.heap[b]? = some (.cells #[x,y,z] t (0,0))):(w.setCell ⟨b,1,none⟩ v).heap[b]? = some (.cells #[x,v,z] t (0,0)):=by
 exact heap_setCell h
theorem set3_2 {w:World} {b t:Nat} {x y z v:Value} (h:w.heap[b]? = some (.cells #[x,y,z] t (0,0))):(w.setCell ⟨b,2,none⟩ v).heap[b]? = some (.cells #[x,y,v] t (0,0)):=by
 exact heap_setCell h
theorem putT3 {u:World} {b t:Nat} {x y z:Value} (h:u.heap[b]? = some (.cells #[x,y,z] t (0,0))) (v0 v1 v2:Value):(u.cell? ⟨b,0,none⟩ = some x ∧ u.frozen? ⟨b,0,none⟩ = false) ∧ ((u.setCell ⟨b,0,none⟩ v0).cell? ⟨b,1,none⟩ = some y ∧ (u.setCell ⟨b,0,none⟩ v0).frozen? ⟨b,1,none⟩ = false) ∧ (((u.setCell ⟨b,0,none⟩ v0).setCell ⟨b,1,none⟩ v1).cell? ⟨b,2,none⟩ = some z ∧ ((u.setCell ⟨b,0,none⟩ v0).setCell ⟨b,1,none⟩ v1).frozen? ⟨b,2,none⟩ = false) ∧ (((u.setCell ⟨b,0,none⟩ v0).setCell ⟨b,1,none⟩ v1).setCell ⟨b,2,none⟩ v2).cell? ⟨b,0,none⟩ = some v0 ∧ (((u.setCell ⟨b,0,none⟩ v0).setCell ⟨b,1,none⟩ v1).setCell ⟨b,2,none⟩ v2).cell? ⟨b,1,none⟩ = some v1 ∧ (((u.setCell ⟨b,0,none⟩ v0).setCell ⟨b,1,none⟩ v1).setCell ⟨b,2,none⟩ v2).cell? ⟨b,2,none⟩ = some v2:=by
 have s1:=set3_0 (v:=v0) h
 have s2:=set3_1 (v:=v1) s1
 have s3:=set3_2 (v:=v2) s2
 exact ⟨(cells3m h).1,(cells3m s1).2.1,(cells3m s2).2.2,(cells3m s3).1.1,(cells3m s3).2.1.1,(cells3m s3).2.2.1⟩
theorem extract_list (s:ByteArray) (a b:Nat):(s.extract a b).data.toList = (s.data.toList.drop a).take (b - a):=by
 rw [ByteArray.data_extract,Array.toList_extract,List.extract_eq_take_drop]
theorem strT_list' (s:ByteArray):strT s.data.toList = s:=by
 cases s
 simp [strT]
theorem strT_ext (s:Txt) (a n:Nat):(strT s).extract a (a + n) = strT ((s.drop a).take n):=by
 have h:=extract_list (strT s) a (a + n)
 rw [Nat.add_sub_cancel_left] at h
 rw [← strT_list' ((strT s).extract a (a + n)),h]
 rfl
end Go.Proofs.YtfhokapfkclckaaGreat
