/- Rules in memory: slices of cells. The reference: Wants, Right. The reference: From, Empty, Null. Slices of cells: own ones, appended ones. -/
import Derived.Test.YtbpnioehmohbcaaGreatJ2
import Derived.Test.YtbpnioehmohbcaaGreatJ1
import Derived.Laws.StructEq
import Derived.ChangeKeysEq
import Derived.Laws.AppendOwnNone
import Derived.Laws.OwnMore
namespace Go.Proofs.YtbpnioehmohbcaaGreat
open Go.RowKit
structure FitC (c:Cel):Prop where
 lo:-9223372036854775808 ≤ c.op
 hi:c.op ≤ 9223372036854775807
 s:Fit4 c.s
def At5 (w:World) (b o:Nat) (c:Cel):Prop:=w.cell? ⟨b,o,none⟩ = some (.int .i64 c.op) ∧ w.cell? ⟨b,o + 1,none⟩ = some (.int .u64 (c.s.a:Int)) ∧ w.cell? ⟨b,o + 2,none⟩ = some (.int .u64 (c.s.b:Int)) ∧ w.cell? ⟨b,o + 3,none⟩ = some (.int .u64 (c.s.c:Int)) ∧ w.cell? ⟨b,o + 4,none⟩ = some (.int .u64 (c.s.d:Int))
theorem keep_cell {u w1:World} (hb:Below u.heap.size u w1) {b o:Nat} {v:Value} (h:u.cell? ⟨b,o,none⟩ = some v):w1.cell? ⟨b,o,none⟩ = some v:=
 (World.cell?_of_block (hb.block b (World.block_lt_of_cell? u _ h))).trans h
theorem At5.keep {w w':World} {b o:Nat} {c:Cel} (h:At5 w b o c) (hb:Below w.heap.size w w'):At5 w' b o c:=⟨keep_cell hb h.1,keep_cell hb h.2.1,keep_cell hb h.2.2.1,keep_cell hb h.2.2.2.1,keep_cell hb h.2.2.2.2⟩
def Cels (w:World) (v:Value) (l:List Cel):Prop:=∃ a cap,v = .slice a l.length cap ∧ l.length ≤ cap ∧ (a = none → cap = 0) ∧ (∀ c ∈ l,FitC c) ∧ ∀ j (h:j < l.length),∃ b o,a = some ⟨b,o,none⟩ ∧ b < w.heap.size ∧ At5 w b (o + j * 5) l[j]
theorem Cels.keep {w w':World} {v:Value} {l:List Cel} (h:Cels w v l) (hb:Below w.heap.size w w'):Cels w' v l:=by
 obtain ⟨a,cap,hv,hc,hn,hf,hat⟩:=h
 refine ⟨a,cap,hv,hc,hn,hf,fun j hj => ?_⟩
 obtain ⟨b,o,ha,hlt,h5⟩:=hat j hj
 exact ⟨b,o,ha,Nat.lt_of_lt_of_le hlt hb.size,h5.keep hb⟩
set_option maxRecDepth 20000 in
theorem Tryz.info128:(Tryz.prog.info? 128).map (fun i => (i.zero,i.size,i.bytes)) = some (some (.int .u64 0),1,8):=by kernel_rfl
set_option maxRecDepth 20000 in
theorem Tryz.cells128:Tryz.prog.cellsOf 128 = 1:=by kernel_rfl
set_option maxRecDepth 20000 in
theorem equal4 (d a b c e a' b' c' e':Nat) (w:World) :
 (Op.equalIn (d + 2) 130 (valB ⟨a,b,c,e⟩) (valB ⟨a',b',c',e'⟩)).run Tryz.prog w = .ok (decide ((⟨a,b,c,e⟩:W4) = ⟨a',b',c',e'⟩)) w:=by
 obtain ⟨i0,hi,hz0,hz1,hz2⟩:=info_parts Tryz.info128
 have p0:∀ x0 x1 x2 x3:Int,(part 128 #[.int .u64 x0,.int .u64 x1,.int .u64 x2,.int .u64 x3] 0).run Tryz.prog w = .ok (.int .u64 x0) w:=fun _ _ _ _ => by simp [part,isAgg,run_underlying Tryz.underlying128]
 have p1:∀ x0 x1 x2 x3:Int,(part 128 #[.int .u64 x0,.int .u64 x1,.int .u64 x2,.int .u64 x3] 1).run Tryz.prog w = .ok (.int .u64 x1) w:=fun _ _ _ _ => by simp [part,isAgg,run_underlying Tryz.underlying128]
 have p2:∀ x0 x1 x2 x3:Int,(part 128 #[.int .u64 x0,.int .u64 x1,.int .u64 x2,.int .u64 x3] 2).run Tryz.prog w = .ok (.int .u64 x2) w:=fun _ _ _ _ => by simp [part,isAgg,run_underlying Tryz.underlying128]
 have p3:∀ x0 x1 x2 x3:Int,(part 128 #[.int .u64 x0,.int .u64 x1,.int .u64 x2,.int .u64 x3] 3).run Tryz.prog w = .ok (.int .u64 x3) w:=fun _ _ _ _ => by simp [part,isAgg,run_underlying Tryz.underlying128]
 rw [run_equalIn_array w (d + 1) _ _ Tryz.underlying130 hi,Tryz.cells128,show List.range 4 = [0,1,2,3] from rfl]
 simp only [Op.eqItems,Sem.run_bind,Nat.mul_one,p0,run_equalIn_int w d 128 .u64 .u64 _ _ Tryz.underlying128,Result.andThen_ok]
 by_cases h0:a = a'
 · by_cases h1:b = b'
   · by_cases h2:c = c'
     · by_cases h3:e = e'
       · subst h0 h1 h2 h3;simp [p1,p2,p3,run_equalIn_int w d 128 .u64 .u64 _ _ Tryz.underlying128]
       · subst h0 h1 h2;simp [h3,p1,p2,p3,run_equalIn_int w d 128 .u64 .u64 _ _ Tryz.underlying128];omega
     · subst h0 h1;simp [h2,p1,p2,p3,run_equalIn_int w d 128 .u64 .u64 _ _ Tryz.underlying128];omega
   · subst h0;simp [h1,p1,p2,p3,run_equalIn_int w d 128 .u64 .u64 _ _ Tryz.underlying128];omega
 · simp [h0,p1,p2,p3,run_equalIn_int w d 128 .u64 .u64 _ _ Tryz.underlying128];omega
end Go.Proofs.YtbpnioehmohbcaaGreat
namespace Go.Proofs.YtbpnioehmohbcaaGreat
open Go.RowKit
set_option maxRecDepth 20000 in
theorem wantsC (op:Int) (w:World):Calls Tryz.prog 104 #[.int .i64 op] w fun e w' => e = .returned (.int .i64 (wants op)) ∧ w' = w:=by
 by_cases h1:op = 1
 · subst h1;rw [show wants 1 = 0 by decide];go_enter Tryz.func104,Tryz.ntmps104;go_wp2;go_ret;exact ⟨rfl,rfl⟩
 by_cases h2:op = 2
 · subst h2;rw [show wants 2 = 0 by decide];go_enter Tryz.func104,Tryz.ntmps104;go_wp2;go_ret;exact ⟨rfl,rfl⟩
 by_cases h3:op = 3
 · subst h3;rw [show wants 3 = 2 by decide];go_enter Tryz.func104,Tryz.ntmps104;go_wp2;go_ret;exact ⟨rfl,rfl⟩
 by_cases h4:op = 4
 · subst h4;rw [show wants 4 = 2 by decide];go_enter Tryz.func104,Tryz.ntmps104;go_wp2;go_ret;exact ⟨rfl,rfl⟩
 have c1:(op == 1) = false:=beq_eq_false_iff_ne.2 h1
 have c2:(op == 2) = false:=beq_eq_false_iff_ne.2 h2
 have c3:(op == 3) = false:=beq_eq_false_iff_ne.2 h3
 have c4:(op == 4) = false:=beq_eq_false_iff_ne.2 h4
 by_cases h5:5 ≤ op
 · by_cases h7:op ≤ 7
   · have e:wants op = 1:=by unfold wants;rw [if_neg (by omega),if_neg (by omega),if_pos ⟨h5,h7⟩]
     rw [e]
     go_enter Tryz.func104,Tryz.ntmps104;go_wp2;go_ret;exact ⟨rfl,rfl⟩
   · have e:wants op = -1:=by unfold wants;rw [if_neg (by omega),if_neg (by omega),if_neg (by omega)]
     rw [e]
     go_enter Tryz.func104,Tryz.ntmps104;go_wp2;go_ret;exact ⟨rfl,rfl⟩
 · have e:wants op = -1:=by unfold wants;rw [if_neg (by omega),if_neg (by omega),if_neg (by omega)]
   rw [e]
   go_enter Tryz.func104,Tryz.ntmps104;go_wp2;go_ret;exact ⟨rfl,rfl⟩
theorem depth_none (l:List Cel) {k:Nat} (h:depthN l k = none):∀ m,k ≤ m → depthN l m = none
 | 0,hm => by
  have:k = 0:=by omega
  subst this;exact h
 | m + 1,hm => by
  by_cases e:k = m + 1
  · subst e;exact h
  · have ih:=depth_none l h m (by omega)
    rw [depthN,ih]
theorem depth_succ (l:List Cel) {k:Nat} {d:Int} (h:depthN l k = some d) (hk:k < l.length):depthN l (k + 1) = if badC d l[k] then none else some (d - wants l[k].op + 1):=by
 rw [depthN,h,List.getElem?_eq_getElem hk]
theorem wants_le (op:Int):-1 ≤ wants op ∧ wants op ≤ 2:=by
 unfold wants
 split
 · omega
 · split
   · omega
   · split <;> omega
theorem right_end {l:List Cel} (h1:1 ≤ l.length) (h2:l.length ≤ 60) {d:Int} (h:depthN l l.length = some d):rightB l = (d == 1):=by
 unfold rightB
 rw [decide_eq_true h1,decide_eq_true h2,h,Bool.eq_iff_iff]
 simp
theorem right_bad {l:List Cel} (h:depthN l l.length = none):rightB l = false:=by
 unfold rightB
 rw [h]
 simp
set_option maxRecDepth 20000 in
set_option maxHeartbeats 4000000 in
theorem rightC (v:Value) (l:List Cel) (w:World) (hA:Cels w v l):Calls Tryz.prog 72 #[v] w fun e w' => e = .returned (.bool (rightB l)) ∧ w' = w:=by
 obtain ⟨av,cv,rfl,_,_,hFl,hAt⟩:=hA
 have hAt:=hid hAt
 by_cases h0:l.length < 1
 · have e:rightB l = false:=by unfold rightB;rw [decide_eq_false (by omega:¬ 1 ≤ l.length)];rfl
   rw [e]
   have h0z:(l.length:Int) < 1:=by omega
   go_enter Tryz.func72,Tryz.ntmps72;go_wp2;go_ret;exact ⟨rfl,rfl⟩
 by_cases h60:60 < l.length
 · have e:rightB l = false:=by unfold rightB;rw [decide_eq_false (by omega:¬ l.length ≤ 60)];simp
   rw [e]
   have h0z:¬ (l.length:Int) < 1:=by omega
   have h60z:(60:Int) < (l.length:Int):=by omega
   go_enter Tryz.func72,Tryz.ntmps72;go_wp2;go_ret;exact ⟨rfl,rfl⟩
 have h0z:¬ (l.length:Int) < 1:=by omega
 have h60z:¬ (60:Int) < (l.length:Int):=by omega
 have hend:=hid (fun d => @right_end l (by omega) (by omega) d)
 have hbad:=hid (fun k (hk:k ≤ l.length) (h:depthN l k = none) => right_bad (depth_none l h l.length hk))
 have hsucc:=hid (fun k d => @depth_succ l k d)
 have GW:=hid wantsC
 generalize rightB l = R at hend hbad ⊢
 go_enter Tryz.func72,Tryz.ntmps72
 go_wp2
 go_loopw [3,4] (fun d i wr => ∃ (k:Nat) (z:Int),k ≤ l.length ∧ i = .int .i64 k ∧ d = .int .i64 z ∧ Hid (depthN l k = some z) ∧ 0 ≤ z ∧ z ≤ k ∧ Hid (wr = w)) (fun _ i _ => l.length - (intOf i).toNat)
 case atStart => exact ⟨0,0,Nat.zero_le _,rfl,rfl,hid rfl,Int.le_refl _,by omega,hid rfl⟩
 case round =>
  obtain ⟨k,z,hk,rfl,rfl,hdep,hz0,hzk,hwr⟩:=hrel
  have hwr':=hwr.out
  subst hwr'
  by_cases hlt:k < l.length
  · have hltz:(k:Int) < (l.length:Int):=by omega
    obtain ⟨b',o',rfl,hb',hat⟩:=hAt.out k hlt
    have hs:=hid (hsucc.out k z hdep.out hlt)
    have hbk:=hid (hbad.out (k + 1) (by omega))
    generalize l[k] = c at hat hs
    obtain ⟨op,S⟩:=c
    obtain ⟨sa,sb,sc,sd⟩:=S
    obtain ⟨d0,d1,d2,d3,d4⟩:=hat
    simp only at d0 d1 d2 d3 d4
    have GW0:=hid (fun u => GW.out op u)
    have hwl:=wants_le op
    unfold badC at hs
    simp only at hs
    generalize wants op = q at GW0 hs hwl
    have he:∀ u,(Op.equalIn 10000 130 (.agg #[.int .u64 (sa:Int),.int .u64 (sb:Int),.int .u64 (sc:Int),.int .u64 (sd:Int)]) (.agg #[.int .u64 0,.int .u64 0,.int .u64 0,.int .u64 0])).run Tryz.prog u = .ok (decide ((⟨sa,sb,sc,sd⟩:W4) = noneB)) u:=fun u => equal4 9998 sa sb sc sd 0 0 0 0 u
    have hgt:=Tryz.eqGuardType130
    generalize decide ((⟨sa,sb,sc,sd⟩:W4) = noneB) = E at he hs
    have hop:decide (op = 1) = (op == 1):=by rw [Bool.eq_iff_iff];simp
    rw [hop] at hs
    clear hop
    by_cases hq:q < 0
    · have hR:R = false:=hbk.out (by rw [hs.out,decide_eq_true hq];rfl)
      subst hR
      go_wp2_with (go_at_call 104;refine (GW0.out _).mono ?_;rintro e u1 ⟨rfl,hu⟩;subst u1)
      go_ret
      exact ⟨rfl,rfl⟩
    · by_cases hd:z < q
      · have hR:R = false:=hbk.out (by rw [hs.out,decide_eq_true hd,Bool.or_true];rfl)
        subst hR
        go_wp2_with (go_at_call 104;refine (GW0.out _).mono ?_;rintro e u1 ⟨rfl,hu⟩;subst u1)
        go_ret
        exact ⟨rfl,rfl⟩
      · rw [decide_eq_false hq,decide_eq_false hd,Bool.false_or,Bool.false_or] at hs
        cases hb:(E == (op == 1)) with
        | true =>
         have hR:R = false:=hbk.out (by rw [hs.out,hb];rfl)
         subst hR
         clear hs
         go_wp2_with (go_at_call 104;refine (GW0.out _).mono ?_;rintro e u1 ⟨rfl,hu⟩;subst u1)
         go_ret
         exact ⟨rfl,rfl⟩
        | false =>
         rw [hb,if_neg Bool.false_ne_true] at hs
         go_wp2_with (go_at_call 104;refine (GW0.out _).mono ?_;rintro e u1 ⟨rfl,hu⟩;subst u1)
         exact ⟨⟨k + 1,z - q + 1,by omega,by go_num,by go_num,hs,by omega,by omega,by first | exact hid rfl | exact hid trivial⟩,by simp [intOf];omega⟩
  · have hltz:¬ (k:Int) < (l.length:Int):=by omega
    have e:k = l.length:=by omega
    subst e
    have hR:=hend.out z hdep.out
    go_wp2
    go_ret
    exact ⟨by first | rfl | rw [hR],rfl⟩
end Go.Proofs.YtbpnioehmohbcaaGreat
namespace Go.Proofs.YtbpnioehmohbcaaGreat
open Go.RowKit
end Go.Proofs.YtbpnioehmohbcaaGreat
namespace Go.Proofs.YtbpnioehmohbcaaGreat
open Go.RowKit
def cellsC (c:Cel):List Value:=[.int .i64 c.op,.int .u64 (c.s.a:Int),.int .u64 (c.s.b:Int),.int .u64 (c.s.c:Int),.int .u64 (c.s.d:Int)]
def flatC (l:List Cel):List Value:=l.flatMap cellsC
theorem flatC_app (l m:List Cel):flatC (l ++ m) = flatC l ++ flatC m:=by unfold flatC;rw [List.flatMap_append]
def cellV (c:Cel):Nat → Value
 | 0 => .int .i64 c.op
 | 1 => .int .u64 (c.s.a:Int)
 | 2 => .int .u64 (c.s.b:Int)
 | 3 => .int .u64 (c.s.c:Int)
 | _ => .int .u64 (c.s.d:Int)
theorem flatC_at:∀ (l:List Cel) (j i:Nat) (hj:j < l.length),i < 5 → (flatC l)[j * 5 + i]? = some (cellV l[j] i)
 | c :: t,0,i,_,hi => by
  have h5:i = 0 ∨ i = 1 ∨ i = 2 ∨ i = 3 ∨ i = 4:=by omega
  rcases h5 with rfl | rfl | rfl | rfl | rfl <;> rfl
 | c :: t,j + 1,i,hj,hi => by
  have ih:=flatC_at t j i (by simpa using hj) hi
  unfold flatC at ih ⊢
  rw [List.flatMap_cons,show (j + 1) * 5 + i = 5 + (j * 5 + i) by omega,List.getElem?_append_right (by simp [cellsC])]
  simpa [cellsC] using ih
theorem at5_of {w:World} {b o:Nat} {c:Cel} (h:∀ i,i < 5 → w.cell? ⟨b,o + i,none⟩ = some (cellV c i)):At5 w b o c:=⟨h 0 (by omega),h 1 (by omega),h 2 (by omega),h 3 (by omega),h 4 (by omega)⟩
abbrev OwnC (w:World) (B:Nat) (v:Value) (l:List Cel):Prop:=w.ownsRow B 132 5 v l.length (flatC l)
theorem own_keep {w w':World} {base size n:Nat} {e:TypeId} {v:Value} {xs:List Value} (h:w.ownsRow base e size v n xs) (hb:∀ k,v.ownBlock = some k → w'.heap[k]? = w.heap[k]?):w'.ownsRow base e size v n xs:=by
 rcases h.2 with ⟨rfl,h0⟩ | ⟨g,cap,cur,rfl,h1,h2,h3⟩
 · exact ⟨h.1,.inl ⟨rfl,h0⟩⟩
 · exact ⟨h.1,.inr ⟨g,cap,cur,rfl,h1,(hb g rfl).trans h2,h3⟩⟩
theorem own_below {w w':World} {base size n:Nat} {e:TypeId} {v:Value} {xs:List Value} (h:w.ownsRow base e size v n xs) (hb:Below w.heap.size w w'):w'.ownsRow base e size v n xs:=
 own_keep h fun k hk => hb.block k (h.lt k hk).2
theorem Cels.of_own {w:World} {B:Nat} {v:Value} {l:List Cel} (h:OwnC w B v l) (hf:∀ c ∈ l,FitC c):Cels w v l:=by
 have h':=h
 rcases h.2 with ⟨rfl,h0⟩ | ⟨g,cap,cur,rfl,_,_,hc,_⟩
 · exact ⟨none,0,by rw [h0],by omega,fun _ => rfl,hf,fun j hj => absurd hj (by omega)⟩
 · refine ⟨_,cap,rfl,hc,fun h => (by cases h),hf,fun j hj => ⟨g,0,rfl,(h'.lt g rfl).2,at5_of fun i hi => ?_⟩⟩
   have:=h'.cells rfl (j * 5 + i) _ (flatC_at l j i hj hi)
   rw [Go.WideShapes.add_plain] at this
   rwa [Nat.add_assoc]
set_option maxRecDepth 20000 in
theorem Tryz.info132:(Tryz.prog.info? 132).map (fun i => (i.zero,i.size,i.bytes)) = some (some (.agg #[.int .i64 0,.int .u64 0,.int .u64 0,.int .u64 0,.int .u64 0]),5,40):=by kernel_rfl
end Go.Proofs.YtbpnioehmohbcaaGreat
