/- The reader: a row, rows. The reader: read, which catches faults. Parse. Sets of numbers as rising lists; the order of lists: facts of lists alone. -/
import Derived.Test.YtbpnioehmohbcaaGreatJ8
import Derived.Defers
import Derived.Recover
import Derived.Lib.SlicesCompact
namespace Go.Proofs.YtbpnioehmohbcaaGreat
open Go.RowKit
set_option maxRecDepth 20000 in
theorem rowEndsR {w:World} {rb:Nat} {s q:Txt} {l:List Cel} (h:Rd w rb s q l) (hs:s.length ≤ 200) :
 Calls Tryz.prog 158 #[.pointer (some ⟨rb,0,none⟩)] w fun e w' => e = .returned (.bool (rowEnd q)) ∧ Rd w' rb s q l ∧ Below rb w w':=by
 have hlt:=h.lt
 have h':=h
 obtain ⟨v,h1,h2,h3⟩:=h
 exact (rowEndsC h1 hs).mono fun e w' hh => ⟨hh.1,h'.keep hh.2,low hlt hh.2⟩
theorem pieceP_lt {q r:Txt} {t:Rx} (h:pieceP q = some (t,r)):r.length < q.length:=by
 unfold pieceP at h
 cases e:atomP q with
 | none => rw [e] at h;cases h
 | some x =>
  obtain ⟨t',q'⟩:=x
  have h1:=atomP_lt e
  have h2:=stars_le q' t'
  rw [e] at h
  injection h with h
  rw [h] at h2
  simp at h2
  omega
set_option maxRecDepth 20000 in
set_option maxHeartbeats 4000000 in
theorem rowC {n:Nat} (H:RowsOK n) {w:World} {rb:Nat} {s q:Txt} {l:List Cel} {M:Nat} (h:Rd w rb s q l) (hs:s.length ≤ 200) (hn:q.length ≤ n) (hM:l.length + 2 * q.length ≤ M) (hM1:M ≤ 1000) :
 Calls Tryz.prog 150 #[.pointer (some ⟨rb,0,none⟩)] w (Red (rowP q) w rb s l M):=by
 have GA:=hid (pieceC H h hs hn hM hM1)
 rw [rowP_piece]
 cases e1:pieceP q with
 | none =>
  rw [e1] at GA
  show Calls _ _ _ _ (Red none w rb s l M)
  clear h e1
  go_enter Tryz.func150,Tryz.ntmps150
  go_wp2_with (go_at_call 157;refine GA.out.mono ?_;intro e w1 hw1;obtain ⟨⟨n1,he1,hn1⟩,hb1⟩:=hw1.no;subst he1)
  exact ⟨rfl,⟨_,rfl,hn1⟩,hb1⟩
 | some x =>
  obtain ⟨t,r⟩:=x
  have hlt:=pieceP_lt e1
  rw [e1] at GA
  show Calls _ _ _ _ (Red (moreP t r) w rb s l M)
  obtain ⟨R,hR⟩:∃ R,Hid (moreP t r = R):=⟨_,hid rfl⟩
  rw [hR.out]
  clear h e1
  go_enter Tryz.func150,Tryz.ntmps150
  go_wp2_with (go_at_call 157;refine GA.out.mono ?_;intro e w1 hw1;obtain ⟨he1,hr1,hm1,hb1⟩:=hw1.yes;subst he1;have hr1:=hid hr1;have hm1:=hid hm1)
  go_loopw [] (fun wr => ∃ a q',Hid (Rd wr rb s q' (l ++ post a)) ∧ Hid (moreP a q' = R) ∧ Hid ((l ++ post a).length + 1 + 2 * q'.length ≤ M) ∧ q'.length ≤ n ∧ Below rb w wr) (fun wr => plcN wr rb s.length)
  case atStart => exact ⟨t,r,hr1,hR,hm1,by omega,hb1⟩
  case round =>
   obtain ⟨a,q',hrd,hst,hmm,hnq,hbw⟩:=hrel
   have hmu:=hid hrd.out.left
   clear hR hr1 hm1 GA
   have GE:=hid (rowEndsR hrd.out hs)
   have hst':=hst.out
   rw [moreP_piece] at hst'
   cases hre:rowEnd q' with
   | true =>
    rw [hre] at GE hst'
    have hst2:Hid (R = some (a,q')):=hid (hst'.symm)
    clear hst' hre hst
    go_wp2_with (go_at_call 158;refine GE.out.mono ?_;rintro e w2 ⟨rfl,hr2,hb2⟩;have hr2:=hid hr2)
    first | go_end0 | refine bodyPost_ret (results_none rfl _ _ _) rfl ?_
    exact Red.mk_yes hst2.out hr2.out hmm.out (hbw.trans hb2)
   | false =>
    rw [hre] at GE hst'
    have hst1:(match pieceP q' with
     | some (t,r) => moreP (.cat a t) r
     | none => none) = R:=hst'
    have hmm':=hmm.out
    have GP:=hid (fun u (hu:Rd u rb s q' (l ++ post a)) => pieceC H hu hs hnq (M:=M - 1) (by omega) (by omega))
    clear hst' hre hst hmm'
    cases e2:pieceP q' with
    | none =>
     rw [e2] at GP hst1
     have hst2:Hid (R = none):=hid hst1.symm
     clear hst1 e2
     go_wp2_with (first
      | (go_at_call 158;refine GE.out.mono ?_;rintro e w2 ⟨rfl,hr2,hb2⟩;have hr2:=hid hr2)
      | (go_at_call 157;refine (GP.out _ hr2.out).mono ?_;intro e w3 hw3;obtain ⟨⟨n3,he3,hn3⟩,hb3⟩:=hw3.no;subst he3))
     exact ⟨rfl,Red.mk_no hst2.out hn3 ((hbw.trans hb2).trans hb3)⟩
    | some y =>
     obtain ⟨t2,r2⟩:=y
     have hlt2:=hid (pieceP_lt e2)
     rw [e2] at GP hst1
     have hst2:Hid (moreP (.cat a t2) r2 = R):=hid hst1
     have G2:=hid (fun u (hu:Rd u rb s r2 ((l ++ post a) ++ post t2)) (hl:((l ++ post a) ++ post t2).length ≤ 1000) => putC hu (by omega) 3 (by decide) (by decide))
     clear hst1 e2
     go_wp2_with (first
      | (go_at_call 158;refine GE.out.mono ?_;rintro e w2 ⟨rfl,hr2,hb2⟩;have hr2:=hid hr2)
      | (go_at_call 157;refine (GP.out _ hr2.out).mono ?_;intro e w3 hw3;obtain ⟨he3,hr3,hm3,hb3⟩:=hw3.yes;subst he3;have hr3:=hid hr3;have hm3':=hid (show (l ++ post a ++ post t2).length ≤ 1000 by omega);have hm3:=hid hm3)
      | (go_at_call 152;refine (G2.out _ hr3.out hm3'.out).mono ?_;rintro e w4 ⟨rfl,hr4,hb4⟩;have hr4:=hid hr4))
     have hr5:Rd w4 rb s r2 (l ++ post (.cat a t2)):=by rw [show l ++ post (.cat a t2) = ((l ++ post a) ++ post t2) ++ [⟨3,noneB⟩] by simp [post]];exact hr4.out
     go_roundw
     case rel =>
      have h1:=hm3.out
      have h2:=hlt2.out
      refine ⟨.cat a t2,r2,hid hr5,hst2,hid ?_,by omega,((hbw.trans hb2).trans hb3).trans hb4⟩
      rw [show l ++ post (.cat a t2) = ((l ++ post a) ++ post t2) ++ [⟨3,noneB⟩] by simp [post],List.length_append]
      simp only [List.length_cons,List.length_nil]
      omega
     case measure =>
      rw [hmu.out,hr5.left]
      exact hlt2.out
set_option maxRecDepth 20000 in
set_option maxHeartbeats 4000000 in
theorem rowsN {n:Nat} (H:RowsOK n) {w:World} {rb:Nat} {s q:Txt} {l:List Cel} {M:Nat} (h:Rd w rb s q l) (hs:s.length ≤ 200) (hn:q.length ≤ n) (hM:l.length + 2 * q.length ≤ M) (hM1:M ≤ 1000) :
 Calls Tryz.prog 145 #[.pointer (some ⟨rb,0,none⟩)] w (Red (rowsP q) w rb s l M):=by
 have GA:=hid (rowC H h hs hn hM hM1)
 rw [rowsP_eq]
 cases e1:rowP q with
 | none =>
  rw [e1] at GA
  show Calls _ _ _ _ (Red none w rb s l M)
  clear h e1
  go_enter Tryz.func145,Tryz.ntmps145
  go_wp2_with (go_at_call 150;refine GA.out.mono ?_;intro e w1 hw1;obtain ⟨⟨n1,he1,hn1⟩,hb1⟩:=hw1.no;subst he1)
  exact ⟨rfl,⟨_,rfl,hn1⟩,hb1⟩
 | some x =>
  obtain ⟨t,r⟩:=x
  have hlt:=rowP_lt e1
  rw [e1] at GA
  show Calls _ _ _ _ (Red (orsP t r) w rb s l M)
  obtain ⟨R,hR⟩:∃ R,Hid (orsP t r = R):=⟨_,hid rfl⟩
  rw [hR.out]
  clear h e1
  go_enter Tryz.func145,Tryz.ntmps145
  go_wp2_with (go_at_call 150;refine GA.out.mono ?_;intro e w1 hw1;obtain ⟨he1,hr1,hm1,hb1⟩:=hw1.yes;subst he1;have hr1:=hid hr1;have hm1:=hid hm1)
  go_loopw [] (fun wr => ∃ a q',Hid (Rd wr rb s q' (l ++ post a)) ∧ Hid (orsP a q' = R) ∧ Hid ((l ++ post a).length + 1 + 2 * q'.length ≤ M) ∧ q'.length ≤ n ∧ Below rb w wr) (fun wr => plcN wr rb s.length)
  case atStart => exact ⟨t,r,hr1,hR,hm1,by omega,hb1⟩
  case round =>
   obtain ⟨a,q',hrd,hst,hmm,hnq,hbw⟩:=hrel
   have hmu:=hid hrd.out.left
   clear hR hr1 hm1 GA
   by_cases c1:q'.head? = some 124
   · obtain ⟨q2,rfl⟩:=head_is c1
     have GE:=hid (takeY hrd.out hs)
     rw [show ((124:UInt8).toNat:Int) = 124 from rfl] at GE
     have hst':=hst.out
     rw [orsP_eq] at hst'
     have hst1:(match rowP q2 with
      | some (t,q) => orsP (.or a t) q
      | none => none) = R:=hst'
     have hmm':=hmm.out
     simp only [List.length_cons] at hmm' hnq
     have GP:=hid (fun u (hu:Rd u rb s q2 (l ++ post a)) => rowC H hu hs (by omega) (M:=M - 1) (by omega) (by omega))
     clear hst' hst c1 hmm'
     cases e2:rowP q2 with
     | none =>
      rw [e2] at GP hst1
      have hst2:Hid (R = none):=hid hst1.symm
      clear hst1 e2
      go_wp2_with (first
       | (go_at_call 151;refine GE.out.mono ?_;rintro e w2 ⟨rfl,hr2,hb2⟩;have hr2:=hid hr2)
       | (go_at_call 150;refine (GP.out _ hr2.out).mono ?_;intro e w3 hw3;obtain ⟨⟨n3,he3,hn3⟩,hb3⟩:=hw3.no;subst he3))
      exact ⟨rfl,Red.mk_no hst2.out hn3 ((hbw.trans hb2).trans hb3)⟩
     | some y =>
      obtain ⟨t2,r2⟩:=y
      have hlt2:=hid (rowP_lt e2)
      rw [e2] at GP hst1
      have hst2:Hid (orsP (.or a t2) r2 = R):=hid hst1
      have G2:=hid (fun u (hu:Rd u rb s r2 ((l ++ post a) ++ post t2)) (hl:((l ++ post a) ++ post t2).length ≤ 1000) => putC hu (by omega) 4 (by decide) (by decide))
      clear hst1 e2
      go_wp2_with (first
       | (go_at_call 151;refine GE.out.mono ?_;rintro e w2 ⟨rfl,hr2,hb2⟩;have hr2:=hid hr2)
       | (go_at_call 150;refine (GP.out _ hr2.out).mono ?_;intro e w3 hw3;obtain ⟨he3,hr3,hm3,hb3⟩:=hw3.yes;subst he3;have hr3:=hid hr3;have hm3':=hid (show (l ++ post a ++ post t2).length ≤ 1000 by omega);have hm3:=hid hm3)
       | (go_at_call 152;refine (G2.out _ hr3.out hm3'.out).mono ?_;rintro e w4 ⟨rfl,hr4,hb4⟩;have hr4:=hid hr4))
      have hr5:Rd w4 rb s r2 (l ++ post (.or a t2)):=by rw [show l ++ post (.or a t2) = ((l ++ post a) ++ post t2) ++ [⟨4,noneB⟩] by simp [post]];exact hr4.out
      go_roundw
      case rel =>
       have h1:=hm3.out
       have h2:=hlt2.out
       refine ⟨.or a t2,r2,hid hr5,hst2,hid ?_,by omega,((hbw.trans hb2).trans hb3).trans hb4⟩
       rw [show l ++ post (.or a t2) = ((l ++ post a) ++ post t2) ++ [⟨4,noneB⟩] by simp [post],List.length_append]
       simp only [List.length_cons,List.length_nil]
       omega
      case measure =>
       have h2:=hlt2.out
       rw [hmu.out,hr5.left]
       simp only [List.length_cons]
       omega
   · have hno:(q'.head? == some 124) = false:=by simpa using c1
     have GE:=hid (takeN hrd.out hs 124 hno)
     rw [show ((124:UInt8).toNat:Int) = 124 from rfl] at GE
     have hst':=hst.out
     rw [orsP_eq,hno] at hst'
     have hst2:Hid (R = some (a,q')):=hid hst'.symm
     clear hst' hst c1 hno
     go_wp2_with (go_at_call 151;refine GE.out.mono ?_;rintro e w2 ⟨rfl,hr2,hb2⟩;have hr2:=hid hr2)
     first | go_end0 | refine bodyPost_ret (results_none rfl _ _ _) rfl ?_
     exact Red.mk_yes hst2.out hr2.out hmm.out (hbw.trans hb2)
theorem rowsOK:∀ n,RowsOK n
 | 0 => fun _ _ _ _ _ _ _ _ h _ _ => absurd h (Nat.not_lt_zero _)
 | n + 1 => fun _ _ _ _ _ _ h hs hn hM hM1 => rowsN (rowsOK n) h hs (Nat.le_of_lt_succ hn) hM hM1
set_option maxRecDepth 20000 in
theorem rowsC {w:World} {rb:Nat} {s q:Txt} {l:List Cel} {M:Nat} (h:Rd w rb s q l) (hs:s.length ≤ 200) (hM:l.length + 2 * q.length ≤ M) (hM1:M ≤ 1000) :
 Calls Tryz.prog 145 #[.pointer (some ⟨rb,0,none⟩)] w (Red (rowsP q) w rb s l M):=rowsOK (q.length + 1) w rb s q l M h hs (Nat.lt_succ_self _) hM hM1
end Go.Proofs.YtbpnioehmohbcaaGreat
namespace Go.Proofs.YtbpnioehmohbcaaGreat
open Go.RowKit
set_option maxRecDepth 20000 in
theorem catch_fault (b:Nat) (n:Int) (x0 x1 x2:Value) (w:World) (h0:w.heap[b]? = some (.cells #[x0] 48 (0,0))) (h1:w.heap[b + 1]? = some (.cells #[x1] 3 (0,0))) (h2:w.heap[b + 2]? = some (.cells #[x2] 45 (0,0))) :
 CallsD Tryz.prog 144 #[.pointer (some ⟨b,0,none⟩),.pointer (some ⟨b + 1,0,none⟩),.pointer (some ⟨b + 2,0,none⟩)] (.panicking [{ v:=.iface 166 (.int .i64 n),recovered:=false }]) w fun e u' w' =>
  e = .returned (.tuple #[]) ∧ u' = .panicking [{ v:=.iface 166 (.int .i64 n),recovered:=true }] ∧ (w'.cell? ⟨b,0,none⟩ = some (.slice none 0 0) ∧ w'.cell? ⟨b + 1,0,none⟩ = some (.int .i64 n) ∧ w'.cell? ⟨b + 2,0,none⟩ = some (.int .i64 1)) ∧ Below b w w':=by
 have c0:=blk_cell (o:=0) (v:=x0) h0 rfl
 have c1:=blk_cell (o:=0) (v:=x1) h1 rfl
 have c2:=blk_cell (o:=0) (v:=x2) h2 rfl
 have f0:=blk_frozen h0 0
 have f1:=blk_frozen h1 0
 have f2:=blk_frozen h2 0
 have ha:∀ u:World,(Instr.typeAssert (.iface 166 (.int .i64 n)) 20 166 false).run Tryz.prog u = .ok (.int .i64 n) u:=fun u => by kernel_rfl
 refine callsD_of_wpS Tryz.func144 rfl fun c₀ cs hu => ?_
 apply wpS_seq
 apply wpS_region
 simp [wpOpsS,go_sem,recoverD,hu,Tryz.ntmps144,Exit.thenS]
 refine wpS_of_wp ?_
 rw [show (#[Value.pointer (some ⟨b,0,none⟩),.pointer (some ⟨b + 1,0,none⟩),.pointer (some ⟨b + 2,0,none⟩)] ++ ((Array.replicate 6 undef).setIfInBounds 1 (Value.iface 166 (.int .i64 n))).setIfInBounds 0 (Value.iface 166 (.int .i64 n))) = #[Value.pointer (some ⟨b,0,none⟩),.pointer (some ⟨b + 1,0,none⟩),.pointer (some ⟨b + 2,0,none⟩),.iface 166 (.int .i64 n),.iface 166 (.int .i64 n),undef,undef,undef,undef] from rfl]
 go_wp2_with fail
 go_region_with (fail)
 all_goals
  go_wp2
  exact ⟨rfl,_,rfl,.tuple #[],by simp [results,Tryz.results144],rfl,rfl,⟨by simp [go_sem,c0],by simp [go_sem,c1],by simp [go_sem,c2]⟩,(bl_set (bl_set (bl_set (Below.refl _ _) b 0 _ (Nat.le_refl _)) (b + 1) 0 _ (by omega)) (b + 2) 0 _ (by omega)).drew⟩
set_option maxRecDepth 20000 in
theorem catch_idle (p q r:Addr) (w:World) :
 CallsD Tryz.prog 144 #[.pointer (some p),.pointer (some q),.pointer (some r)] .returning w fun e u' w' => e = .returned (.tuple #[]) ∧ u' = .returning ∧ w' = w:=by
 refine callsD_of_wpS Tryz.func144 rfl fun c₀ cs hu => ?_
 apply wpS_seq
 apply wpS_region
 simp [wpOpsS,go_sem,recoverD,hu,Tryz.ntmps144,Exit.thenS]
 refine wpS_of_wp ?_
 rw [show (#[Value.pointer (some p),.pointer (some q),.pointer (some r)] ++ ((Array.replicate 6 undef).setIfInBounds 1 Value.nilIface).setIfInBounds 0 Value.nilIface) = #[Value.pointer (some p),.pointer (some q),.pointer (some r),.nilIface,.nilIface,undef,undef,undef,undef] from rfl]
 go_wp2
 refine ⟨rfl,.returning,?_,.tuple #[],by simp [results,Tryz.results144],rfl,rfl,rfl⟩
 cases c₀
 simp_all
def readW (w:World) (s:Txt):World:=(((w.alloc (.cells #[.slice none 0 0] 48)).alloc (.cells #[.int .i64 0] 3)).alloc (.cells #[.int .i64 0] 45)).alloc (.cells #[.string (strT s),.int .i64 0,.slice none 0 0] 168)
theorem readW_below (w:World) (s:Txt):Below w.heap.size w (readW w s):=bl_step (bl_step (bl_step (al' w _) (al' _ _)) (al' _ _)) (al' _ _)
theorem readW_rd (w:World) (s:Txt):Rd (readW w s) (w.heap.size + 3) s s []:=by
 obtain ⟨h0,h1,h2,h3⟩:=four_blocks w (.cells #[.slice none 0 0] 48) (.cells #[.int .i64 0] 3) (.cells #[.int .i64 0] 45) (.cells #[.string (strT s),.int .i64 0,.slice none 0 0] 168)
 exact ⟨.slice none 0 0,⟨[],rfl,h3⟩,World.ownsRow_nil _ _ _ _,fun c hc => by cases hc⟩
set_option maxRecDepth 20000 in
set_option maxHeartbeats 2000000 in
theorem readOk (s:Txt) (t:Rx) (w:World) (hs:s.length ≤ 200) (hr:rowsP s = some (t,[])) :
 Calls Tryz.prog 136 #[.string (strT s)] w fun e w' => ∃ v,e = .returned (.tuple #[v,.int .i64 0,.int .i64 0]) ∧ Cels w' v (post t) ∧ Below w.heap.size w w':=by
 have hmf:∀ (fn:Fn) (first cap:Array Value) (w:World),(Instr.makeFunc fn first cap).run Tryz.prog w = .ok (.func fn first cap) w:=fun _ _ _ _ => rfl
 have G:=rowsC (M:=400) (readW_rd w s) hs (by simp;omega) (by omega)
 rw [hr] at G
 have G:=hid G
 obtain ⟨h0,h1,h2,h3⟩:=four_blocks w (.cells #[.slice none 0 0] 48) (.cells #[.int .i64 0] 3) (.cells #[.int .i64 0] 45) (.cells #[.string (strT s),.int .i64 0,.slice none 0 0] 168)
 have hsz:(readW w s).heap.size = w.heap.size + 4:=by simp [readW]
 have hpl:plc s [] = (s.length:Int):=by simp [plc]
 have hS:=strT_size s
 have HE:Hid (∀ w1,Red (some (t,[])) (readW w s) (w.heap.size + 3) s [] 400 (.returned (.tuple #[])) w1 → ∃ ad cap,(w1.cell? ⟨w.heap.size + 3,1,none⟩ = some (.int .i64 (s.length:Int)) ∧ w1.cell? ⟨w.heap.size + 3,2,none⟩ = some (.slice ad (post t).length cap) ∧ w1.heap[w.heap.size]? = some (.cells #[.slice none 0 0] 48 (0,0)) ∧ w1.heap[w.heap.size + 1]? = some (.cells #[.int .i64 0] 3 (0,0)) ∧ w1.heap[w.heap.size + 2]? = some (.cells #[.int .i64 0] 45 (0,0))) ∧ (∀ c ∈ post t,FitC c) ∧ OwnC w1 (w.heap.size + 3) (.slice ad (post t).length cap) (post t) ∧ Below w.heap.size w w1):=hid (fun w1 hw => by
  obtain ⟨-,hrd,-,hb⟩:=hw.yes
  have hp:=hrd.place
  rw [hpl] at hp
  obtain ⟨v,hat,ho,hf⟩:=hrd
  obtain ⟨k,hbk⟩:=hat.blk
  have hC:=Cels.of_own (l:=post t) ho hf
  obtain ⟨ad,cap,rfl⟩:∃ ad cap,v = .slice ad (post t).length cap:=by obtain ⟨a,c,e,_⟩:=hC;exact ⟨a,c,e⟩
  refine ⟨ad,cap,⟨hp,(rd3 hbk).2.2.1,(hb.block _ (by omega)).trans h0,(hb.block _ (by omega)).trans h1,(hb.block _ (by omega)).trans h2⟩,hf,ho,?_⟩
  exact (readW_below w s).trans (hb.mono (by omega)))
 unfold readW at G HE
 generalize strT s = S at G HE hS
 clear h0 h1 h2 h3 hsz hpl hr
 go_enter_defers Tryz.func136,Tryz.ntmps136
 go_wp2_with (go_at_call 145;refine G.out.mono ?_;intro e w1 hw1;obtain ⟨he1,-,-,-⟩:=hw1.yes;subst he1;obtain ⟨ad,cap,⟨c1,c2,k0,k1,k2⟩,hC,hO,hb⟩:=HE.out w1 hw1;have hC:=hid hC;have hO:=hid hO;have d0:=blk_cell (o:=0) (v:=.slice none 0 0) k0 rfl;have d1:=blk_cell (o:=0) (v:=.int .i64 0) k1 rfl;have d2:=blk_cell (o:=0) (v:=.int .i64 0) k2 rfl;have f0:=blk_frozen k0 0;have f1:=blk_frozen k1 0;have f2:=blk_frozen k2 0;clear k0 k1 k2)
 refine leaves_cons (f:=144) (args:=#[.pointer (some ⟨w.heap.size,0,none⟩),.pointer (some ⟨w.heap.size + 1,0,none⟩),.pointer (some ⟨w.heap.size + 2,0,none⟩)]) (by simp) (by simp [go_sem]) ?_
 refine (catch_idle _ _ _ _).mono ?_
 rintro e u' w'' ⟨rfl,rfl,rfl⟩
 have hO':OwnC (((w1.setCell ⟨w.heap.size,0,none⟩ (.slice ad (post t).length cap)).setCell ⟨w.heap.size + 1,0,none⟩ (.int .i64 0)).setCell ⟨w.heap.size + 2,0,none⟩ (.int .i64 0)) (w.heap.size + 3) (.slice ad (post t).length cap) (post t):=own_keep hO.out fun k hk => by
  have:=(hO.out.lt k hk).1
  rw [Below.heap_setCell _ _ _ _ (by simp;omega),Below.heap_setCell _ _ _ _ (by simp;omega),Below.heap_setCell _ _ _ _ (by simp;omega)]
 refine ⟨.tuple #[.slice ad (post t).length cap,.int .i64 0,.int .i64 0],by simp [results,Tryz.results136,go_sem,d0,d1,d2],_,rfl,Cels.of_own (l:=post t) hO' hC.out,?_⟩
 exact bl_set (bl_set (bl_set hb _ 0 _ (Nat.le_refl _)) _ 0 _ (by omega)) _ 0 _ (by omega)
set_option maxRecDepth 20000 in
set_option maxHeartbeats 2000000 in
theorem readBad (s:Txt) (w:World) (hs:s.length ≤ 200) (hr:∀ t,rowsP s ≠ some (t,[])) :
 Calls Tryz.prog 136 #[.string (strT s)] w fun e w' => ∃ n,e = .returned (.tuple #[.slice none 0 0,.int .i64 n,.int .i64 1]) ∧ (s = [40,97] → n = 2) ∧ Below w.heap.size w w':=by
 have hmf:∀ (fn:Fn) (first cap:Array Value) (w:World),(Instr.makeFunc fn first cap).run Tryz.prog w = .ok (.func fn first cap) w:=fun _ _ _ _ => rfl
 have G:=rowsC (M:=400) (readW_rd w s) hs (by simp;omega) (by omega)
 obtain ⟨h0,h1,h2,h3⟩:=four_blocks w (.cells #[.slice none 0 0] 48) (.cells #[.int .i64 0] 3) (.cells #[.int .i64 0] 45) (.cells #[.string (strT s),.int .i64 0,.slice none 0 0] 168)
 have hsz:(readW w s).heap.size = w.heap.size + 4:=by simp [readW]
 have HB:Hid (∀ w1,Below (w.heap.size + 3) (readW w s) w1 → (w1.heap[w.heap.size]? = some (.cells #[.slice none 0 0] 48 (0,0)) ∧ w1.heap[w.heap.size + 1]? = some (.cells #[.int .i64 0] 3 (0,0)) ∧ w1.heap[w.heap.size + 2]? = some (.cells #[.int .i64 0] 45 (0,0))) ∧ Below w.heap.size w w1):=hid (fun w1 hb => ⟨⟨(hb.block _ (by omega)).trans h0,(hb.block _ (by omega)).trans h1,(hb.block _ (by omega)).trans h2⟩,(readW_below w s).trans (hb.mono (by omega))⟩)
 have hS:=strT_size s
 cases e1:rowsP s with
 | none =>
  rw [e1] at G
  have G':=hid G
  unfold readW at G' HB
  generalize strT s = S at G' HB hS
  clear h0 h1 h2 h3 hsz hr e1 G
  go_enter_defers Tryz.func136,Tryz.ntmps136
  go_wp2_with (go_at_call 145;refine G'.out.mono ?_;intro e w1 hw1;obtain ⟨⟨n1,he1,hn1⟩,hb1⟩:=hw1.no;subst he1;obtain ⟨⟨k0,k1,k2⟩,hb⟩:=HB.out w1 hb1;have k0:=hid k0;have k1:=hid k1;have k2:=hid k2)
  refine leaves_cons (f:=144) (args:=#[.pointer (some ⟨w.heap.size,0,none⟩),.pointer (some ⟨w.heap.size + 1,0,none⟩),.pointer (some ⟨w.heap.size + 2,0,none⟩)]) (by simp) (by simp [go_sem]) ?_
  refine (catch_fault w.heap.size n1 _ _ _ _ k0.out k1.out k2.out).mono ?_
  rintro e u' w'' ⟨rfl,rfl,⟨q0,q1,q2⟩,hbw⟩
  exact ⟨.tuple #[.slice none 0 0,.int .i64 n1,.int .i64 1],by simp [results,Tryz.results136,go_sem,q0,q1,q2],n1,rfl,hn1,hb.trans hbw⟩
 | some x =>
  obtain ⟨t,q⟩:=x
  rw [e1] at G
  have hq:q ≠ []:=fun e => hr t (by rw [e1,e])
  have hqp:0 < q.length:=List.length_pos_iff.2 hq
  have hn2:s = [40,97] → False:=fun he => by subst he;cases e1
  have hlt:plc s q < (s.length:Int):=by unfold plc;omega
  have HP:=hid (fun w1 (h:Rd w1 (w.heap.size + 3) s q ([] ++ post t)) => h.place)
  generalize plc s q = p at hlt HP
  have G':=hid G
  unfold readW at G' HB
  generalize strT s = S at G' HB hS
  clear h0 h1 h2 h3 hsz hr e1 G hq hqp
  go_enter_defers Tryz.func136,Tryz.ntmps136
  go_wp2_with (go_at_call 145;refine G'.out.mono ?_;intro e w1 hw1;obtain ⟨he1,hrd1,-,hb1⟩:=hw1.yes;subst he1;have c1:=HP.out w1 hrd1;obtain ⟨⟨k0,k1,k2⟩,hb⟩:=HB.out w1 hb1;have k0:=hid k0;have k1:=hid k1;have k2:=hid k2)
  refine leaves_cons (f:=144) (args:=#[.pointer (some ⟨w.heap.size,0,none⟩),.pointer (some ⟨w.heap.size + 1,0,none⟩),.pointer (some ⟨w.heap.size + 2,0,none⟩)]) (by simp) (by simp [go_sem]) ?_
  refine (catch_fault w.heap.size p _ _ _ _ k0.out k1.out k2.out).mono ?_
  rintro e u' w'' ⟨rfl,rfl,⟨q0,q1,q2⟩,hbw⟩
  exact ⟨.tuple #[.slice none 0 0,.int .i64 p,.int .i64 1],by simp [results,Tryz.results136,go_sem,q0,q1,q2],p,rfl,fun he => (hn2 he).elim,hb.trans hbw⟩
end Go.Proofs.YtbpnioehmohbcaaGreat
namespace Go.Proofs.YtbpnioehmohbcaaGreat
open Go.RowKit
set_option maxRecDepth 20000 in
theorem parseLong (s:Txt) (w:World) (hs:200 < s.length):Calls Tryz.prog 121 #[.string (strT s)] w fun e w' => ∃ a c,e = .returned (.tuple #[.slice a 0 c,.int .i64 0,.int .i64 3]) ∧ Below w.heap.size w w':=by
 have hS:=strT_size s
 have hz:(200:Int) < ((strT s).size:Int):=by omega
 generalize strT s = S at hS hz
 clear hS hs
 go_enter Tryz.func121,Tryz.ntmps121
 go_wp2
 refine bodyPost_ret (v:=.tuple #[.slice none 0 0,.int .i64 0,.int .i64 3]) (by simp [results,Tryz.results121,go_sem]) rfl ⟨none,0,rfl,Below.refl _ _⟩
set_option maxRecDepth 20000 in
theorem parseBad (s:Txt) (w:World) (hs:s.length ≤ 200) (hr:∀ t,rowsP s ≠ some (t,[])):Calls Tryz.prog 121 #[.string (strT s)] w fun e w' => ∃ a c n,e = .returned (.tuple #[.slice a 0 c,.int .i64 n,.int .i64 1]) ∧ (s = [40,97] → n = 2) ∧ Below w.heap.size w w':=by
 have G:=hid (readBad s w hs hr)
 have hS:=strT_size s
 have hz:¬ (200:Int) < ((strT s).size:Int):=by omega
 have hzz:(strT s).size ≤ 200:=by omega
 generalize strT s = S at hS hz G hzz
 clear hr hS
 go_enter Tryz.func121,Tryz.ntmps121
 go_wp2_with (go_at_call 136;refine G.out.mono ?_;rintro e w1 ⟨n,rfl,hn,hb⟩)
 refine bodyPost_ret (v:=.tuple #[.slice none 0 0,.int .i64 n,.int .i64 1]) (by simp [results,Tryz.results121,go_sem]) rfl ⟨none,0,n,rfl,hn,hb⟩
set_option maxRecDepth 20000 in
theorem parseFull (s:Txt) (t:Rx) (w:World) (hs:s.length ≤ 200) (hr:rowsP s = some (t,[])) (hl:60 < (post t).length):Calls Tryz.prog 121 #[.string (strT s)] w fun e w' => ∃ a c,e = .returned (.tuple #[.slice a 0 c,.int .i64 0,.int .i64 3]) ∧ Below w.heap.size w w':=by
 have G0:=readOk s t w hs hr
 have hS:=strT_size s
 have hz:¬ (200:Int) < ((strT s).size:Int):=by omega
 have hzz:(strT s).size ≤ 200:=by omega
 have G:Hid (Calls Tryz.prog 136 #[.string (strT s)] w fun e w' => ∃ a c,e = .returned (.tuple #[.slice a (post t).length c,.int .i64 0,.int .i64 0]) ∧ Below w.heap.size w w'):=hid (G0.mono fun e w' ⟨v,he,hc,hb⟩ => by
  obtain ⟨a,c,hv,_⟩:=hc
  subst hv
  exact ⟨a,c,he,hb⟩)
 generalize strT s = S at hS hz G hzz
 have hlz:(60:Int) < ((post t).length:Int):=by omega
 generalize (post t).length = L at G hlz
 clear hr hS G0 hl
 go_enter Tryz.func121,Tryz.ntmps121
 go_wp2_with (go_at_call 136;refine G.out.mono ?_;rintro e w1 ⟨a,c,rfl,hb⟩)
 refine bodyPost_ret (v:=.tuple #[.slice none 0 0,.int .i64 0,.int .i64 3]) (by simp [results,Tryz.results121,go_sem]) rfl ⟨none,0,rfl,hb⟩
end Go.Proofs.YtbpnioehmohbcaaGreat
namespace Go.Proofs.YtbpnioehmohbcaaGreat
def cmpL:List Int → List Int → Int
 | [],[] => 0
 | [],_ :: _ => -1
 | _ :: _,[] => 1
 | x :: a,y :: b => if x < y then -1 else if y < x then 1 else cmpL a b
theorem cmpL_cases:∀ a b,cmpL a b = -1 ∨ cmpL a b = 0 ∨ cmpL a b = 1
 | [],[] => by simp [cmpL]
 | [],_ :: _ => by simp [cmpL]
 | _ :: _,[] => by simp [cmpL]
 | x :: a,y :: b => by
  have:=cmpL_cases a b
  unfold cmpL
  split
  · simp
  · split
    · simp
    · exact this
theorem cmpL_same:∀ a b,cmpL a b = 0 ↔ a = b
 | [],[] => by simp [cmpL]
 | [],_ :: _ => by simp [cmpL]
 | _ :: _,[] => by simp [cmpL]
 | x :: a,y :: b => by
  have:=cmpL_same a b
  unfold cmpL
  by_cases h1:x < y
  · rw [if_pos h1];simp;omega
  · by_cases h2:y < x
    · rw [if_neg h1,if_pos h2];simp;omega
    · rw [if_neg h1,if_neg h2,this]
      obtain rfl:x = y:=by omega
      simp
theorem cmpL_at {a b:List Int} {k:Nat} (ha:k < a.length) (hb:k < b.length):cmpL (a.drop k) (b.drop k) = if a[k] < b[k] then -1 else if b[k] < a[k] then 1 else cmpL (a.drop (k + 1)) (b.drop (k + 1)):=by
 rw [List.drop_eq_getElem_cons ha,List.drop_eq_getElem_cons hb,cmpL]
theorem cmpL_endA {a b:List Int} {k:Nat} (ha:¬ k < a.length) (hb:k < b.length):cmpL (a.drop k) (b.drop k) = -1:=by
 rw [List.drop_eq_nil_of_le (by omega),List.drop_eq_getElem_cons hb,cmpL]
theorem cmpL_endB {a b:List Int} {k:Nat} (ha:k < a.length) (hb:¬ k < b.length):cmpL (a.drop k) (b.drop k) = 1:=by
 rw [List.drop_eq_getElem_cons ha,List.drop_eq_nil_of_le (show b.length ≤ k by omega),cmpL]
theorem cmpL_end {a b:List Int} {k:Nat} (ha:¬ k < a.length) (hb:¬ k < b.length):cmpL (a.drop k) (b.drop k) = 0:=by
 rw [List.drop_eq_nil_of_le (show a.length ≤ k by omega),List.drop_eq_nil_of_le (show b.length ≤ k by omega),cmpL]
end Go.Proofs.YtbpnioehmohbcaaGreat
