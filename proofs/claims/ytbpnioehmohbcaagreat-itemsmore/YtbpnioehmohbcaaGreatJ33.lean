/- Layer 16: items in memory, wherever they lie, or of the call's own; one more, many more; held against each other. The reference of layer 16: Has, Same. The reference: Letter, Reserved, named. The reference: names. -/
import Derived.Test.YtbpnioehmohbcaaGreatJ32
import Derived.Test.YtbpnioehmohbcaaGreatJ14
import Derived.Test.YtbpnioehmohbcaaGreatJ22
import Derived.Test.YtbpnioehmohbcaaGreatJ11
import Derived.Test.YtbpnioehmohbcaaGreatJ15
import Derived.Laws.StructEq
namespace Go.Proofs.YtbpnioehmohbcaaGreat
open Go.RowKit Go.Maps Go.Sort
set_option maxRecDepth 20000 in
theorem infoIt:(Tryz.prog.info? 29).map (fun i => (i.zero,i.size,i.bytes)) = some (some (.agg #[.int .i64 0,.int .i64 0]),2,16):=by kernel_rfl
def itC (p:It):List Value:=[.int .i64 p.1,.int .i64 p.2]
def itCells (l:List It):List Value:=l.flatMap itC
theorem itCells_app (l m:List It):itCells (l ++ m) = itCells l ++ itCells m:=by unfold itCells;rw [List.flatMap_append]
theorem itCells_len (l:List It):(itCells l).length = l.length * 2:=by
 induction l with
 | nil => rfl
 | cons a l ih =>
  show (itC a ++ itCells l).length = _
  rw [List.length_append,ih,List.length_cons]
  show 2 + _ = _
  omega
theorem itCells_at:∀ (l:List It) (j:Nat) (hj:j < l.length),(itCells l)[j * 2]? = some (.int .i64 l[j].1) ∧ (itCells l)[j * 2 + 1]? = some (.int .i64 l[j].2)
 | [],_,hj => absurd hj (Nat.not_lt_zero _)
 | a :: l,0,_ => ⟨rfl,rfl⟩
 | a :: l,j + 1,hj => by
  have h:=itCells_at l j (by simpa using hj)
  have e:itCells (a :: l) = itC a ++ itCells l:=rfl
  have hl:(itC a).length = 2:=rfl
  rw [e,List.getElem?_append_right (by rw [hl];omega),List.getElem?_append_right (by rw [hl];omega),hl,show (j + 1) * 2 - 2 = j * 2 by omega,show (j + 1) * 2 + 1 - 2 = j * 2 + 1 by omega]
  exact h
theorem itCells_one (l:List It):∀ u ∈ itCells l,u.oneCell' = true:=fun u hu => by
 unfold itCells at hu
 rw [List.mem_flatMap] at hu
 obtain ⟨p,_,hp⟩:=hu
 unfold itC at hp
 simp only [List.mem_cons,List.not_mem_nil,or_false] at hp
 rcases hp with rfl | rfl <;> rfl
abbrev Its (w:World) (v:Value) (l:List It):Prop:=Lst 2 LevAt w v l
abbrev OwnIt (w:World) (B:Nat) (v:Value) (l:List It):Prop:=w.ownsRow B 29 2 v l.length (itCells l)
theorem Its.of_row {w:World} {B:Nat} {v:Value} {l:List It} (h:OwnIt w B v l):Its w v l:=by
 have h':=h
 rcases h.2 with ⟨rfl,h0⟩ | ⟨g,cap,cur,rfl,_,_,hc,_⟩
 · rw [List.length_eq_zero_iff.1 h0]
   exact Lst.nil w
 · have hlt:=(h'.lt g rfl).2
   have hcells:=h'.cells (g:=g) rfl
   refine ⟨_,_,rfl,hc,fun h => (by cases h),fun j hj => ⟨g,0,rfl,hlt,?_⟩⟩
   obtain ⟨h1,h2⟩:=itCells_at l j hj
   have e1:=hcells _ _ h1
   have e2:=hcells _ _ h2
   refine ⟨?_,?_⟩
   · by_cases h0:j = 0
     · subst h0;simpa [Addr.add] using e1
     · simpa [Addr.add,show j * 2 ≠ 0 by omega] using e1
   · simpa [Addr.add] using e2
theorem Its.keep {w u:World} {v:Value} {l:List It} (h:Its w v l) (hu:Below w.heap.size w u):Its u v l:=h.keepR hu.size fun _ _ _ _ h => ⟨keep_cell hu h.1,keep_cell hu h.2⟩
theorem Its.nil (w:World):Its w (.slice none 0 0) []:=Lst.nil w
theorem Its.parts {w:World} {v:Value} {l:List It} (h:Its w v l):(v = .slice none 0 0 ∧ l = []) ∨ ∃ ad cap,v = .slice (some ad) l.length cap ∧ ∀ j u,(itCells l)[j]? = some u → w.cell? (ad.add j) = some u:=by
 obtain ⟨a,cap,rfl,hc,hn,hat⟩:=h
 cases a with
 | none =>
  cases l with
  | nil => rw [hn rfl];exact .inl ⟨rfl,rfl⟩
  | cons x l =>
   obtain ⟨b,o,e,_⟩:=hat 0 (Nat.zero_lt_succ _)
   cases e
 | some ad =>
  refine .inr ⟨ad,cap,rfl,fun k u hk => ?_⟩
  have hkl:k < l.length * 2:=by
   have:=(List.getElem?_eq_some_iff.1 hk).1
   rw [itCells_len] at this
   exact this
  have hj:k / 2 < l.length:=by omega
  obtain ⟨b,o,e,-,h1,h2⟩:=hat (k / 2) hj
  injection e with e
  subst e
  obtain ⟨c1,c2⟩:=itCells_at l (k / 2) hj
  have ea:∀ i,(⟨b,o,none⟩:Addr).add i = ⟨b,o + i,none⟩:=fun i => by simp [Addr.add]
  rw [ea]
  rcases Nat.mod_two_eq_zero_or_one k with hm | hm
  · have hk2:k = k / 2 * 2:=by omega
    rw [hk2,c1] at hk
    rw [hk2,← hk]
    exact h1
  · have hk2:k = k / 2 * 2 + 1:=by omega
    rw [hk2,c2] at hk
    rw [hk2,← hk,← Nat.add_assoc]
    exact h2
set_option maxRecDepth 20000 in
theorem wp_appI {ops:Array Oper} {rest:List Oper} {o:Oper} {a:Act} {Q:Exit → Act → World → Prop} (w:World) (hgd:o.guard = none) (s x:Operand)
 (ho:o.op = .call { callee:=.builtin .append,args:=#[s,x],argTypes:=#[36,36] })
 (B:Nat) (l1 l2:List It) (v vx:Value) (hs:a.eval s = v) (hx:a.eval x = vx) (hown:OwnIt w B v l1) (hN:Its w vx l2) (hl:l1.length + l2.length ≤ 4000000) (hB:B ≤ w.heap.size)
 (h:∀ v' w',OwnIt w' B v' (l1 ++ l2) → Below B w w' → wpList Tryz.prog ops Q rest (a.put o.dst v') w'):wpList Tryz.prog ops Q (o :: rest) a w:=by
 obtain ⟨i0,hi,hz0,hz1,hz2⟩:=info_parts infoIt
 rcases hN.parts with ⟨rfl,rfl⟩ | ⟨ad,cap,rfl,hnews⟩
 · refine wpList_append_own_none hgd s x 36 ho B 29 i0 2 Tryz.underlying36 hi v _ _ hs hown hx ?_
   rw [List.append_nil] at h
   exact h v w hown ((Below.refl _ w).mono hB)
 · refine wpList_append_own w hgd s x 36 ho B 29 i0 (.agg #[.int .i64 0,.int .i64 0]) 2 16 Tryz.underlying36 hi hz0 hz1 hz2 rfl (by decide) v _ _ hs hown ad l2.length cap (itCells l2) hx (itCells_len l2) hnews (itCells_one l2) (by unfold maxLen;omega) (by omega) hB ?_
   intro v' w' hO hg _
   refine h v' w' ?_ (((Below.refl _ w).mono hB).grown hg hB (fun k hk => (hown.lt k hk).1))
   unfold OwnIt
   rw [itCells_app,List.length_append]
   exact hO
theorem OwnIt.lit1 (w:World) (a b:Int):OwnIt (w.alloc (.cells #[.int .i64 a,.int .i64 b] 29)) w.heap.size (.slice (some ⟨w.heap.size,0,none⟩) 1 1) [(a,b)]:=
 World.ownsRow_lit w #[.int .i64 a,.int .i64 b] 1 (Nat.le_refl _) (by unfold maxLen;omega) rfl
theorem Its.lit1 (w:World) (a b:Int):Its (w.alloc (.cells #[.int .i64 a,.int .i64 b] 29)) (.slice (some ⟨w.heap.size,0,none⟩) 1 1) [(a,b)]:=Its.of_row (OwnIt.lit1 w a b)
theorem OwnIt.nil0 (w:World) (B:Nat):OwnIt w B (.slice none 0 0) []:=World.ownsRow_nil _ _ _ _
abbrev itV (x:It):Value:=.agg #[.int .i64 x.1,.int .i64 x.2]
set_option maxRecDepth 20000 in
theorem flds_it : (Tryz.prog.fieldsOf 29).toList = [{ name := "Prod", type := 3, offset := 0, embedded := false, tag := "", pkgPath := "", byteOffset := 0 }, { name := "Dot", type := 3, offset := 1, embedded := false, tag := "", pkgPath := "", byteOffset := 8 }] := by kernel_rfl
set_option maxRecDepth 20000 in
theorem eqlIt (a b c d:Int) (w:World):(binOp .eql 29 (.agg #[.int .i64 a,.int .i64 b]) (.agg #[.int .i64 c,.int .i64 d])).run Tryz.prog w = .ok (.bool (decide (((a,b):It) = (c,d)))) w:=by
 have p0:∀ x0 x1:Int,(part 3 #[.int .i64 x0,.int .i64 x1] 0).run Tryz.prog w = .ok (.int .i64 x0) w:=fun _ _ => by simp [part,isAgg,run_underlying Tryz.underlying3]
 have p1:∀ x0 x1:Int,(part 3 #[.int .i64 x0,.int .i64 x1] 1).run Tryz.prog w = .ok (.int .i64 x1) w:=fun _ _ => by simp [part,isAgg,run_underlying Tryz.underlying3]
 have hi:=fun d x y => run_equalIn_int (P:=Tryz.prog) w d 3 .i64 .i64 x y Tryz.underlying3
 rw [run_eql_struct,run_equalIn_struct w 9999 _ _ _ (by kernel_rfl) (by kernel_rfl),flds_it]
 by_cases h0:a = c
 · by_cases h1:b = d
   · subst h0 h1;simp [Op.eqFields,p0,p1,hi]
   · subst h0;simp [Op.eqFields,p0,p1,hi,h1]
 · simp [Op.eqFields,p0,hi,h0]
set_option maxRecDepth 20000 in
theorem neqIt (a b c d:Int) (w:World):(binOp .neq 29 (.agg #[.int .i64 a,.int .i64 b]) (.agg #[.int .i64 c,.int .i64 d])).run Tryz.prog w = .ok (.bool (!decide (((a,b):It) = (c,d)))) w:=by
 have p0:∀ x0 x1:Int,(part 3 #[.int .i64 x0,.int .i64 x1] 0).run Tryz.prog w = .ok (.int .i64 x0) w:=fun _ _ => by simp [part,isAgg,run_underlying Tryz.underlying3]
 have p1:∀ x0 x1:Int,(part 3 #[.int .i64 x0,.int .i64 x1] 1).run Tryz.prog w = .ok (.int .i64 x1) w:=fun _ _ => by simp [part,isAgg,run_underlying Tryz.underlying3]
 have hi:=fun d x y => run_equalIn_int (P:=Tryz.prog) w d 3 .i64 .i64 x y Tryz.underlying3
 rw [run_neq_struct,run_equalIn_struct w 9999 _ _ _ (by kernel_rfl) (by kernel_rfl),flds_it]
 by_cases h0:a = c
 · by_cases h1:b = d
   · subst h0 h1;simp [Op.eqFields,p0,p1,hi]
   · subst h0;simp [Op.eqFields,p0,p1,hi,h1]
 · simp [Op.eqFields,p0,hi,h0]
end Go.Proofs.YtbpnioehmohbcaaGreat
namespace Go.Proofs.YtbpnioehmohbcaaGreat
open Go.RowKit Go.Maps Go.Sort
theorem cells2h {w:World} {b t:Nat} {x0 x1:Value} (h:w.heap[b]? = some (.cells #[x0,x1] t (0,0))):w.cell? ⟨b,0,none⟩ = some x0 ∧ w.cell? ⟨b,1,none⟩ = some x1:=⟨blk_cell h rfl,blk_cell h rfl⟩
theorem itHas_step {l:List It} {x:It} {k:Nat} (hk:k < l.length) (h:(l.take k).contains x = false):(l.take (k + 1)).contains x = decide (l[k] = x):=by
 rw [List.take_succ_eq_append_getElem hk,List.contains_append,h,Bool.false_or,List.contains_cons,List.contains_nil,Bool.or_false,Bool.eq_iff_iff,beq_iff_eq,decide_eq_true_eq]
 exact eq_comm
theorem itHas_yes {l:List It} {x:It} {k:Nat} (h:(l.take k).contains x = true):l.contains x = true:=by
 rw [List.contains_iff_mem] at h ⊢
 exact List.mem_of_mem_take h
set_option maxRecDepth 20000 in
set_option maxHeartbeats 4000000 in
theorem refHasI (v:Value) (l:List It) (x:It) (w:World) (hl:l.length ≤ 1000000) (hA:Its w v l) :
 Calls Tryz.prog 23 #[v,itV x] w fun e w' => e = .returned (.bool (l.contains x)) ∧ Below w.heap.size w w':=by
 obtain ⟨a,c,rfl,-,-,hat⟩:=hA
 have hst:=fun k (hk:k < l.length) => itHas_step (x:=x) hk
 obtain ⟨x1,x2⟩:=x
 have hB1:=al' w (.cells #[.int .i64 x1,.int .i64 x2] 29)
 have k1:=heap_new w (.cells #[.int .i64 x1,.int .i64 x2] 29)
 obtain ⟨W,hW⟩:∃ x,w.alloc (.cells #[.int .i64 x1,.int .i64 x2] 29) = x:=⟨_,rfl⟩
 rw [hW] at hB1 k1
 have hk1:=hid (fun u (hu:Below W.heap.size W u) => cells2h (hs_keep k1 hu))
 have hat:=hid (fun u (hu:Below W.heap.size W u) k (hk:k < l.length) => by
  obtain ⟨b,o,e,-,hc⟩:=hat k hk
  exact (⟨b,o,e,keep_cell (bl_step hB1 hu) hc.1,keep_cell (bl_step hB1 hu) hc.2⟩:∃ b o,a = some ⟨b,o,none⟩ ∧ u.cell? ⟨b,o + k * 2,none⟩ = some (.int .i64 l[k].1) ∧ u.cell? ⟨b,o + k * 2 + 1,none⟩ = some (.int .i64 l[k].2)))
 have hst:=hid (fun k (hk:k < l.length) => hst k hk)
 have h0:Hid ((l.take 0).contains (x1,x2) = false):=hid rfl
 have hye:=hid (fun k => itHas_yes (l:=l) (x:=(x1,x2)) (k:=k))
 have hfin:Hid ((l.take l.length).contains (x1,x2) = l.contains (x1,x2)):=hid (by rw [List.take_length])
 have hB:=hid hB1
 have b0:=hid (Below.refl W.heap.size W)
 obtain ⟨n,hn⟩:∃ n,Hid (l.length = n):=⟨_,hid rfl⟩
 obtain ⟨R,hR⟩:∃ r,Hid (l.contains (x1,x2) = r):=⟨_,hid rfl⟩
 rw [hR.out]
 rw [hn.out] at hl ⊢
 clear hB1 k1
 go_enter Tryz.func23,Tryz.ntmps23
 go_wp2
 clear hW
 go_loopw [5] (fun i wr => ∃ k:Nat,k ≤ n ∧ i = .int .i64 (k:Int) ∧ Hid ((l.take k).contains (x1,x2) = false) ∧ Hid (Below W.heap.size W wr)) (fun i _ => n - (intOf i).toNat)
 case atStart => exact ⟨0,Nat.zero_le _,rfl,h0,b0⟩
 case round =>
  clear h0 b0
  obtain ⟨k,hk,rfl,hG,hbl⟩:=hrel
  obtain ⟨y0,y1⟩:=hk1.out wr hbl.out
  by_cases hlt:k < n
  · have hltz:(k:Int) < (n:Int):=by omega
    have hkl:k < l.length:=by rw [hn.out];exact hlt
    obtain ⟨b,o,e,z0,z1⟩:=hat.out wr hbl.out k hkl
    subst e
    have hs:=hst.out k hkl hG.out
    have hq0:=eqlIt l[k].1 l[k].2 x1 x2
    have hye:=hid (hye.out (k + 1))
    clear hG
    cases hd:decide (l[k] = (x1,x2)) with
    | true =>
     rw [hd] at hs
     have hq:∀ w,(binOp .eql 29 (.agg #[.int .i64 l[k].1,.int .i64 l[k].2]) (.agg #[.int .i64 x1,.int .i64 x2])).run Tryz.prog w = .ok (.bool true) w:=fun w => by rw [hq0,show (((l[k].1,l[k].2):It)) = l[k] from rfl,hd]
     have hr:R = true:=by rw [← hR.out];exact hye.out hs
     subst hr
     clear hd hs hye hat hst hq0
     generalize l[k].1 = a1 at *
     generalize l[k].2 = a2 at *
     go_wp2_with fail
     go_quiet (fail)
     go_wp2
     go_ret
     exact ⟨rfl,bl_step hB.out (by first | exact hbl.out | exact belowN hbl.out | exact belowN (belowN hbl.out))⟩
    | false =>
     rw [hd] at hs
     have hq:∀ w,(binOp .eql 29 (.agg #[.int .i64 l[k].1,.int .i64 l[k].2]) (.agg #[.int .i64 x1,.int .i64 x2])).run Tryz.prog w = .ok (.bool false) w:=fun w => by rw [hq0,show (((l[k].1,l[k].2):It)) = l[k] from rfl,hd]
     have hs':=hid hs
     clear hs
     clear hd hye hq0
     generalize l[k].1 = a1 at *
     generalize l[k].2 = a2 at *
     go_wp2_with fail
     go_quiet (fail)
     go_wp2
     go_roundw
     case rel => exact ⟨k + 1,by omega,by go_num,hs',hid (by first | exact hbl.out | exact belowN hbl.out | exact belowN (belowN hbl.out))⟩
     case measure => simp [intOf];omega
  · have hltz:¬ (k:Int) < (n:Int):=by omega
    obtain rfl:k = n:=by omega
    have hr:R = false:=by rw [← hR.out,← hfin.out,hn.out];exact hG.out
    subst hr
    clear hat hst hG
    go_wp2
    go_ret
    exact ⟨rfl,bl_step hB.out hbl.out⟩
set_option maxRecDepth 20000 in
set_option maxHeartbeats 4000000 in
theorem refSameI (v v':Value) (l m:List It) (w:World) (hl:l.length ≤ 1000000) (hm:m.length ≤ 1000000) (hA:Its w v l) (hB:Its w v' m) :
 Calls Tryz.prog 18 #[v,v'] w fun e w' => e = .returned (.bool (decide (l = m))) ∧ Below w.heap.size w w':=by
 obtain ⟨a,c,rfl,-,-,hat⟩:=hA
 obtain ⟨a',c',rfl,-,-,hat'⟩:=hB
 by_cases hlen:l.length = m.length
 · have hat:=hid (fun u (hu:Below w.heap.size w u) k (hk:k < l.length) => by
    obtain ⟨b,o,e,-,hc⟩:=hat k hk
    exact (⟨b,o,e,keep_cell hu hc.1,keep_cell hu hc.2⟩:∃ b o,a = some ⟨b,o,none⟩ ∧ u.cell? ⟨b,o + k * 2,none⟩ = some (.int .i64 l[k].1) ∧ u.cell? ⟨b,o + k * 2 + 1,none⟩ = some (.int .i64 l[k].2)))
   have hat':=hid (fun u (hu:Below w.heap.size w u) k (hk:k < m.length) => by
    obtain ⟨b,o,e,-,hc⟩:=hat' k hk
    exact (⟨b,o,e,keep_cell hu hc.1,keep_cell hu hc.2⟩:∃ b o,a' = some ⟨b,o,none⟩ ∧ u.cell? ⟨b,o + k * 2,none⟩ = some (.int .i64 m[k].1) ∧ u.cell? ⟨b,o + k * 2 + 1,none⟩ = some (.int .i64 m[k].2)))
   have b0:=hid (Below.refl w.heap.size w)
   have hyes:Hid ((∀ j (hj:j < l.length) (hj':j < m.length),l[j] = m[j]) → decide (l = m) = true):=hid (fun h => decide_eq_true (List.ext_getElem hlen h))
   have hno:Hid (∀ j (hj:j < l.length) (hj':j < m.length),l[j] ≠ m[j] → decide (l = m) = false):=hid (fun j hj hj' h => decide_eq_false (fun e => h (by subst e;rfl)))
   obtain ⟨n,hn⟩:∃ n,Hid (l.length = n):=⟨_,hid rfl⟩
   have hn':Hid (m.length = n):=hid (by rw [← hlen];exact hn.out)
   generalize decide (l = m) = R at *
   rw [hn.out] at hl ⊢
   rw [hn'.out] at hm ⊢
   clear hlen
   go_enter Tryz.func18,Tryz.ntmps18
   go_wp2
   go_loopw [5] (fun i wr => ∃ k:Nat,k ≤ n ∧ i = .int .i64 (k:Int) ∧ Hid (∀ j,j < k → ∀ (hj:j < l.length) (hj':j < m.length),l[j] = m[j]) ∧ Hid (Below w.heap.size w wr)) (fun i _ => n - (intOf i).toNat)
   case atStart => exact ⟨0,Nat.zero_le _,rfl,hid (fun j hj => absurd hj (Nat.not_lt_zero _)),b0⟩
   case round =>
    clear b0
    obtain ⟨k,hk,rfl,hG,hbl⟩:=hrel
    by_cases hlt:k < n
    · have hltz:(k:Int) < (n:Int):=by omega
      have hkl:k < l.length:=by rw [hn.out];exact hlt
      have hkm:k < m.length:=by rw [hn'.out];exact hlt
      obtain ⟨b,o,e,z0,z1⟩:=hat.out wr hbl.out k hkl
      subst e
      obtain ⟨b',o',e',z0',z1'⟩:=hat'.out wr hbl.out k hkm
      subst e'
      have hq0:=neqIt l[k].1 l[k].2 m[k].1 m[k].2
      cases hd:decide (l[k] = m[k]) with
      | true =>
       have hq:∀ w,(binOp .neq 29 (.agg #[.int .i64 l[k].1,.int .i64 l[k].2]) (.agg #[.int .i64 m[k].1,.int .i64 m[k].2])).run Tryz.prog w = .ok (.bool false) w:=fun w => by rw [hq0,show (((l[k].1,l[k].2):It)) = l[k] from rfl,show (((m[k].1,m[k].2):It)) = m[k] from rfl,hd];rfl
       have hG':=hid (fun j (hj1:j < k + 1) (hj:j < l.length) (hj':j < m.length) => by
        rcases Nat.lt_or_ge j k with h | h
        · exact hG.out j h hj hj'
        · obtain rfl:j = k:=by omega
          exact of_decide_eq_true hd)
       clear hd hG hq0
       generalize l[k].1 = a1 at *
       generalize l[k].2 = a2 at *
       generalize m[k].1 = m1 at *
       generalize m[k].2 = m2 at *
       go_wp2_with fail
       go_quiet (fail)
       go_wp2
       go_roundw
       case rel => exact ⟨k + 1,by omega,by go_num,hG',hid (by first | exact hbl.out | exact belowN hbl.out | exact belowN (belowN hbl.out))⟩
       case measure => simp [intOf];omega
      | false =>
       have hq:∀ w,(binOp .neq 29 (.agg #[.int .i64 l[k].1,.int .i64 l[k].2]) (.agg #[.int .i64 m[k].1,.int .i64 m[k].2])).run Tryz.prog w = .ok (.bool true) w:=fun w => by rw [hq0,show (((l[k].1,l[k].2):It)) = l[k] from rfl,show (((m[k].1,m[k].2):It)) = m[k] from rfl,hd];rfl
       obtain rfl:=hno.out k hkl hkm (of_decide_eq_false hd)
       clear hd hG hat hat' hyes hno hq0
       generalize l[k].1 = a1 at *
       generalize l[k].2 = a2 at *
       generalize m[k].1 = m1 at *
       generalize m[k].2 = m2 at *
       go_wp2_with fail
       go_quiet (fail)
       go_wp2
       go_ret
       exact ⟨rfl,by first | exact hbl.out | exact belowN hbl.out | exact belowN (belowN hbl.out)⟩
    · have hltz:¬ (k:Int) < (n:Int):=by omega
      obtain rfl:k = n:=by omega
      obtain rfl:=hyes.out (fun j hj hj' => hG.out j (by rw [← hn.out];exact hj) hj hj')
      clear hat hat' hG hno
      go_wp2
      go_ret
      exact ⟨rfl,hbl.out⟩
 · have hz:((l.length:Int) != (m.length:Int)) = true:=by rw [bne_iff_ne];omega
   rw [decide_eq_false (fun e => hlen (by rw [e]))]
   clear hat hat' hlen
   generalize l.length = n at *
   generalize m.length = n' at *
   go_enter Tryz.func18,Tryz.ntmps18
   go_wp2
   go_ret
   exact ⟨rfl,Below.refl _ _⟩
end Go.Proofs.YtbpnioehmohbcaaGreat
namespace Go.Proofs.YtbpnioehmohbcaaGreat
open Go.RowKit Go.Maps
set_option maxRecDepth 20000 in
theorem letterC (b:Nat) (w:World) (hb:b < 256):Calls Tryz.prog 106 #[.int .u8 (b:Int)] w fun e w' => e = .returned (.bool (letB b)) ∧ w' = w:=by
 rcases (show b = 95 ∨ (65 ≤ b ∧ b ≤ 90) ∨ (97 ≤ b ∧ b ≤ 122) ∨ b < 65 ∨ (90 < b ∧ b < 97 ∧ b ≠ 95) ∨ 122 < b by omega) with h | h | h | h | h | h
 · rw [letB_yes (by omega)]
   subst h
   go_enter Tryz.func106,Tryz.ntmps106
   go_wp2
   go_ret
   exact ⟨by simp,rfl⟩
 · rw [letB_yes (by omega)]
   have h1:((b:Int) == 95) = false:=by rw [beq_eq_false_iff_ne];omega
   have h2:(65:Int) ≤ (b:Int):=by omega
   have h3:(b:Int) ≤ 90:=by omega
   go_enter Tryz.func106,Tryz.ntmps106
   go_wp2
   go_ret
   exact ⟨by simp,rfl⟩
 · rw [letB_yes (by omega)]
   have h1:((b:Int) == 95) = false:=by rw [beq_eq_false_iff_ne];omega
   have h2:(65:Int) ≤ (b:Int):=by omega
   have h3:¬ (b:Int) ≤ 90:=by omega
   have h4:(97:Int) ≤ (b:Int):=by omega
   have h5:(b:Int) ≤ 122:=by omega
   go_enter Tryz.func106,Tryz.ntmps106
   go_wp2
   go_ret
   exact ⟨by simp,rfl⟩
 · rw [letB_no (by omega)]
   have h1:((b:Int) == 95) = false:=by rw [beq_eq_false_iff_ne];omega
   have h2:¬ (65:Int) ≤ (b:Int):=by omega
   have h4:¬ (97:Int) ≤ (b:Int):=by omega
   go_enter Tryz.func106,Tryz.ntmps106
   go_wp2
   go_ret
   exact ⟨by simp,rfl⟩
 · rw [letB_no (by omega)]
   have h1:((b:Int) == 95) = false:=by rw [beq_eq_false_iff_ne];omega
   have h2:(65:Int) ≤ (b:Int):=by omega
   have h3:¬ (b:Int) ≤ 90:=by omega
   have h4:¬ (97:Int) ≤ (b:Int):=by omega
   go_enter Tryz.func106,Tryz.ntmps106
   go_wp2
   go_ret
   exact ⟨by simp,rfl⟩
 · rw [letB_no (by omega)]
   have h1:((b:Int) == 95) = false:=by rw [beq_eq_false_iff_ne];omega
   have h2:(65:Int) ≤ (b:Int):=by omega
   have h3:¬ (b:Int) ≤ 90:=by omega
   have h4:(97:Int) ≤ (b:Int):=by omega
   have h5:¬ (b:Int) ≤ 122:=by omega
   go_enter Tryz.func106,Tryz.ntmps106
   go_wp2
   go_ret
   exact ⟨by simp,rfl⟩
theorem kw_yes {t:Txt} (h:t = kTok ∨ t = kSkip ∨ t = kLeft ∨ t = kRight ∨ t = kNone ∨ t = kStart):kwB t = true:=by
 rcases h with rfl | rfl | rfl | rfl | rfl | rfl <;> decide
theorem kw_no {t:Txt} (h1:¬ t = kTok) (h2:¬ t = kSkip) (h3:¬ t = kLeft) (h4:¬ t = kRight) (h5:¬ t = kNone) (h6:¬ t = kStart):kwB t = false:=by
 unfold kwB sdN
 rw [decide_eq_false h1,decide_eq_false h2,decide_eq_false h6,if_neg h3,if_neg h4,if_neg h5]
 rfl
theorem strT_is3 {t u:Txt} (h:t = u):((strT t).toList == u) = true:=by rw [h,strT_toL,beq_self_eq_true]
theorem strT_isnt3 {t u:Txt} (h:¬ t = u):((strT t).toList == u) = false:=by rw [strT_toL,beq_eq_false_iff_ne];exact h
set_option maxRecDepth 20000 in
set_option maxHeartbeats 4000000 in
theorem reservedC (t:Txt) (w:World):Calls Tryz.prog 105 #[.string (strT t)] w fun e w' => e = .returned (.bool (kwB t)) ∧ w' = w:=by
 by_cases h1:t = kTok
 · have hb1:((strT t).toList == ([116,111,107,101,110]:Txt)) = true:=strT_is3 h1
   rw [kw_yes (.inl h1)]
   clear h1
   generalize strT t = S at *
   go_enter Tryz.func105,Tryz.ntmps105
   go_wp2_with fail
   go_ret
   exact ⟨by first | rfl | simp,rfl⟩
 have hb1:((strT t).toList == ([116,111,107,101,110]:Txt)) = false:=strT_isnt3 h1
 by_cases h2:t = kSkip
 · have hb2:((strT t).toList == ([115,107,105,112]:Txt)) = true:=strT_is3 h2
   rw [kw_yes (.inr (.inl h2))]
   clear h1 h2
   generalize strT t = S at *
   go_enter Tryz.func105,Tryz.ntmps105
   go_wp2_with fail
   go_ret
   exact ⟨by first | rfl | simp,rfl⟩
 have hb2:((strT t).toList == ([115,107,105,112]:Txt)) = false:=strT_isnt3 h2
 by_cases h3:t = kLeft
 · have hb3:((strT t).toList == ([108,101,102,116]:Txt)) = true:=strT_is3 h3
   rw [kw_yes (.inr (.inr (.inl h3)))]
   clear h1 h2 h3
   generalize strT t = S at *
   go_enter Tryz.func105,Tryz.ntmps105
   go_wp2_with fail
   go_ret
   exact ⟨by first | rfl | simp,rfl⟩
 have hb3:((strT t).toList == ([108,101,102,116]:Txt)) = false:=strT_isnt3 h3
 by_cases h4:t = kRight
 · have hb4:((strT t).toList == ([114,105,103,104,116]:Txt)) = true:=strT_is3 h4
   rw [kw_yes (.inr (.inr (.inr (.inl h4))))]
   clear h1 h2 h3 h4
   generalize strT t = S at *
   go_enter Tryz.func105,Tryz.ntmps105
   go_wp2_with fail
   go_ret
   exact ⟨by first | rfl | simp,rfl⟩
 have hb4:((strT t).toList == ([114,105,103,104,116]:Txt)) = false:=strT_isnt3 h4
 by_cases h5:t = kNone
 · have hb5:((strT t).toList == ([110,111,110,101]:Txt)) = true:=strT_is3 h5
   rw [kw_yes (.inr (.inr (.inr (.inr (.inl h5)))))]
   clear h1 h2 h3 h4 h5
   generalize strT t = S at *
   go_enter Tryz.func105,Tryz.ntmps105
   go_wp2_with fail
   go_ret
   exact ⟨by first | rfl | simp,rfl⟩
 have hb5:((strT t).toList == ([110,111,110,101]:Txt)) = false:=strT_isnt3 h5
 by_cases h6:t = kStart
 · have hb6:((strT t).toList == ([115,116,97,114,116]:Txt)) = true:=strT_is3 h6
   rw [kw_yes (.inr (.inr (.inr (.inr (.inr (h6))))))]
   clear h1 h2 h3 h4 h5 h6
   generalize strT t = S at *
   go_enter Tryz.func105,Tryz.ntmps105
   go_wp2_with fail
   go_ret
   exact ⟨by first | rfl | simp,rfl⟩
 have hb6:((strT t).toList == ([115,116,97,114,116]:Txt)) = false:=strT_isnt3 h6
 rw [kw_no h1 h2 h3 h4 h5 h6]
 clear h1 h2 h3 h4 h5 h6
 generalize strT t = S at *
 go_enter Tryz.func105,Tryz.ntmps105
 go_wp2_with fail
 go_ret
 exact ⟨by first | rfl | simp,rfl⟩
theorem namB_bad {s:Txt} {i:Nat} (h:i < s.length) (h1:letB s[i].toNat = false) (h2:i = 0 ∨ digB s[i].toNat = false):namB s = false:=by
 rw [Bool.eq_false_iff]
 intro hn
 unfold namB at hn
 simp only [Bool.and_eq_true,decide_eq_true_eq,List.all_eq_true] at hn
 obtain ⟨⟨⟨-,h3⟩,h4⟩,-⟩:=hn
 rcases h2 with rfl | h2
 · cases s with
   | nil => cases h
   | cons c r =>
    have h1:letB c.toNat = false:=h1
    have h3:letB c.toNat = true:=h3
    rw [h1] at h3
    cases h3
 · have:=h4 _ (List.getElem_mem h)
   rw [h1,h2] at this
   cases this
theorem namB_good {s:Txt} (h0:1 ≤ s.length) (h16:s.length ≤ 16) (hk:kwB s = false) (h:∀ i (hi:i < s.length),letB s[i].toNat = true ∨ (i ≠ 0 ∧ digB s[i].toNat = true)):namB s = true:=by
 refine namB_of ⟨h16,?_,fun c hc => ?_⟩ hk
 · cases s with
   | nil => cases h0
   | cons c r =>
    rcases h 0 (by simp) with h1 | h1
    · exact ⟨c,r,rfl,h1⟩
    · exact absurd rfl h1.1
 · obtain ⟨i,hi,rfl⟩:=List.getElem_of_mem hc
   rcases h i hi with h1 | h1
   · rw [h1,Bool.true_or]
   · rw [h1.2,Bool.or_true]
theorem digB_yes {c:Nat} (h1:48 ≤ c) (h2:c ≤ 57):digB c = true:=by unfold digB;rw [decide_eq_true h1,decide_eq_true h2];rfl
theorem digB_no {c:Nat} (h:¬ (48 ≤ c ∧ c ≤ 57)):digB c = false:=by
 unfold digB
 by_cases h1:48 ≤ c
 · rw [decide_eq_true h1,decide_eq_false (fun h2 => h ⟨h1,h2⟩)];rfl
 · rw [decide_eq_false h1];rfl
set_option maxRecDepth 20000 in
set_option maxHeartbeats 8000000 in
theorem namedC (s:Txt) (w:World) (hs:s.length ≤ 1000000):Calls Tryz.prog 73 #[.string (strT s)] w fun e w' => e = .returned (.bool (namB s)) ∧ w' = w:=by
 have hsz:=strT_size s
 have GL:=hid (fun (c:Nat) (hc:c < 256) (u:World) => letterC c u hc)
 have GK:=hid (reservedC s w)
 rcases Nat.lt_or_ge s.length 1 with h1 | h1
 · have hz:((strT s).size:Int) < 1:=by omega
   have hn:namB s = false:=by
    have:s = []:=List.eq_nil_of_length_eq_zero (by omega)
    rw [this];rfl
   rw [hn]
   clear GK GL hn hsz
   go_enter Tryz.func73,Tryz.ntmps73
   go_wp2
   go_ret
   exact ⟨rfl,rfl⟩
 have hz1:¬ ((strT s).size:Int) < 1:=by omega
 rcases Nat.lt_or_ge 16 s.length with h2 | h2
 · have hz:(16:Int) < ((strT s).size:Int):=by omega
   have hn:namB s = false:=by unfold namB;rw [decide_eq_false (by omega)];rfl
   rw [hn]
   clear GK GL hn hsz
   go_enter Tryz.func73,Tryz.ntmps73
   go_wp2
   go_ret
   exact ⟨rfl,rfl⟩
 have hz2:¬ (16:Int) < ((strT s).size:Int):=by omega
 cases hk:kwB s with
 | true =>
  have hn:namB s = false:=by unfold namB;rw [hk];simp
  rw [hn]
  rw [hk] at GK
  clear GL hn hsz hk
  go_enter Tryz.func73,Tryz.ntmps73
  go_wp2_with (go_at_call 105;refine GK.out.mono ?_;clear GK;rintro e w2 ⟨rfl,hc2⟩;subst w2)
  go_ret
  exact ⟨rfl,rfl⟩
 | false =>
  rw [hk] at GK
  have hgood:=hid (fun h => namB_good h1 h2 hk h)
  have hbad:=hid (fun i (h:i < s.length) h1 h2 => namB_bad h h1 h2)
  clear hk
  generalize namB s = R at *
  go_enter Tryz.func73,Tryz.ntmps73
  go_wp2_with (go_at_call 105;refine GK.out.mono ?_;clear GK;rintro e w2 ⟨rfl,hc2⟩;subst w2)
  go_loopw [3] (fun x wr => ∃ p:Nat,p ≤ s.length ∧ x = .int .i64 (p:Int) ∧ Hid (∀ i (hi:i < s.length),i < p → letB s[i].toNat = true ∨ (i ≠ 0 ∧ digB s[i].toNat = true)) ∧ wr = w) (fun x _ => s.length - (intOf x).toNat)
  case atStart => exact ⟨0,Nat.zero_le _,rfl,hid (fun i _ h => absurd h (Nat.not_lt_zero _)),rfl⟩
  case round =>
   obtain ⟨p,hp,rfl,hI,rfl⟩:=hrel
   by_cases hpt:p < s.length
   · have hptz:(p:Int) < ((strT s).size:Int):=by omega
     have hptn:p < (strT s).size:=by omega
     have key:=str_get hpt hptn
     have hgd:s.getD p 0 = s[p]:=by rw [List.getD_eq_getElem?_getD,List.getElem?_eq_getElem hpt];rfl
     rw [hgd] at key
     have hcb:=s[p].toNat_lt
     have G:=hid (GL.out s[p].toNat hcb wr)
     have hb1:=hid (fun h1 h2 => hbad.out p hpt h1 h2)
     have hst:Hid ((letB s[p].toNat = true ∨ (p ≠ 0 ∧ digB s[p].toNat = true)) → ∀ i (hi:i < s.length),i < p + 1 → letB s[i].toNat = true ∨ (i ≠ 0 ∧ digB s[i].toNat = true)):=hid (fun h i hi h9 => by
      rcases Nat.lt_or_ge i p with h8 | h8
      · exact hI.out i hi h8
      · obtain rfl:i = p:=by omega
        exact h)
     clear hgd hI hbad
     generalize s[p].toNat = c at *
     have hdig:(48 ≤ c ∧ c ≤ 57) ∨ c < 48 ∨ 57 < c:=by omega
     cases hl:letB c with
     | true =>
      rw [hl] at G
      have hn9:=hid (hst.out (.inl hl))
      clear hst hb1 hl
      rcases hdig with ⟨d1,d2⟩ | d1 | d1
      · have e1:(48:Int) ≤ (c:Int):=by omega
        have e2:(c:Int) ≤ 57:=by omega
        go_wp2_with (go_at_call 106;refine G.out.mono ?_;clear G;rintro e w2 ⟨rfl,hc2⟩;subst w2)
        go_roundw
        case rel => exact ⟨p + 1,by omega,by go_num,hn9,by first | rfl | trivial⟩
        case measure => simp [intOf];omega
      · have e1:¬ (48:Int) ≤ (c:Int):=by omega
        go_wp2_with (go_at_call 106;refine G.out.mono ?_;clear G;rintro e w2 ⟨rfl,hc2⟩;subst w2)
        go_roundw
        case rel => exact ⟨p + 1,by omega,by go_num,hn9,by first | rfl | trivial⟩
        case measure => simp [intOf];omega
      · have e1:(48:Int) ≤ (c:Int):=by omega
        have e2:¬ (c:Int) ≤ 57:=by omega
        go_wp2_with (go_at_call 106;refine G.out.mono ?_;clear G;rintro e w2 ⟨rfl,hc2⟩;subst w2)
        go_roundw
        case rel => exact ⟨p + 1,by omega,by go_num,hn9,by first | rfl | trivial⟩
        case measure => simp [intOf];omega
     | false =>
      rw [hl] at G
      rcases Nat.eq_zero_or_pos p with h0 | h0
      · obtain rfl:=hb1.out hl (.inl h0)
        have h0z:((p:Int) == 0) = true:=by rw [h0];rfl
        clear hst hb1 hl h0
        rcases hdig with ⟨d1,d2⟩ | d1 | d1
        · have e1:(48:Int) ≤ (c:Int):=by omega
          have e2:(c:Int) ≤ 57:=by omega
          go_wp2_with (go_at_call 106;refine G.out.mono ?_;clear G;rintro e w2 ⟨rfl,hc2⟩;subst w2)
          go_ret
          exact ⟨rfl,rfl⟩
        · have e1:¬ (48:Int) ≤ (c:Int):=by omega
          go_wp2_with (go_at_call 106;refine G.out.mono ?_;clear G;rintro e w2 ⟨rfl,hc2⟩;subst w2)
          go_ret
          exact ⟨rfl,rfl⟩
        · have e1:(48:Int) ≤ (c:Int):=by omega
          have e2:¬ (c:Int) ≤ 57:=by omega
          go_wp2_with (go_at_call 106;refine G.out.mono ?_;clear G;rintro e w2 ⟨rfl,hc2⟩;subst w2)
          go_ret
          exact ⟨rfl,rfl⟩
      · have h0z:((p:Int) == 0) = false:=by rw [beq_eq_false_iff_ne];omega
        rcases hdig with ⟨d1,d2⟩ | d1 | d1
        · have e1:(48:Int) ≤ (c:Int):=by omega
          have e2:(c:Int) ≤ 57:=by omega
          have hn9:=hid (hst.out (.inr ⟨by omega,digB_yes d1 d2⟩))
          clear hst hb1 hl
          go_wp2_with (go_at_call 106;refine G.out.mono ?_;clear G;rintro e w2 ⟨rfl,hc2⟩;subst w2)
          go_roundw
          case rel => exact ⟨p + 1,by omega,by go_num,hn9,by first | rfl | trivial⟩
          case measure => simp [intOf];omega
        · have e1:¬ (48:Int) ≤ (c:Int):=by omega
          obtain rfl:=hb1.out hl (.inr (digB_no (by omega)))
          clear hst hb1 hl
          go_wp2_with (go_at_call 106;refine G.out.mono ?_;clear G;rintro e w2 ⟨rfl,hc2⟩;subst w2)
          go_ret
          exact ⟨rfl,rfl⟩
        · have e1:(48:Int) ≤ (c:Int):=by omega
          have e2:¬ (c:Int) ≤ 57:=by omega
          obtain rfl:=hb1.out hl (.inr (digB_no (by omega)))
          clear hst hb1 hl
          go_wp2_with (go_at_call 106;refine G.out.mono ?_;clear G;rintro e w2 ⟨rfl,hc2⟩;subst w2)
          go_ret
          exact ⟨rfl,rfl⟩
   · have hptz:¬ (p:Int) < ((strT s).size:Int):=by omega
     obtain rfl:=hgood.out (fun i hi => hI.out i hi (by omega))
     go_wp2
     go_ret
     exact ⟨rfl,rfl⟩
end Go.Proofs.YtbpnioehmohbcaaGreat
namespace Go.Proofs.YtbpnioehmohbcaaGreat
open Go.RowKit Go.Maps Go.Sort
def namesB (g:Gm):Bool:=(g.rules.all fun r => rightB r.re) && (g.allN.all namB && decide g.allN.Nodup)
theorem namesB_right {g:Gm} {k:Nat} (hk:k < g.rules.length) (h:rightB g.rules[k].re = false):namesB g = false:=by
 unfold namesB
 have:(g.rules.all fun r => rightB r.re) = false:=by
  rw [List.all_eq_false]
  exact ⟨_,List.getElem_mem hk,by rw [h];decide⟩
 rw [this];rfl
theorem namesB_named {g:Gm} {k:Nat} (hk:k < g.allN.length) (h:namB g.allN[k] = false):namesB g = false:=by
 unfold namesB
 have:g.allN.all namB = false:=by
  rw [List.all_eq_false]
  exact ⟨_,List.getElem_mem hk,by rw [h];decide⟩
 rw [this,Bool.false_and,Bool.and_false]
theorem namesB_twice {g:Gm} {k i:Nat} (hi:i < g.allN.length) (hk:k < i) (h:g.allN[k]'(by omega) = g.allN[i]):namesB g = false:=by
 unfold namesB
 have:decide g.allN.Nodup = false:=decide_eq_false fun hn => by
  have:=List.pairwise_iff_getElem.1 hn k i (by omega) hi hk
  exact this h
 rw [this,Bool.and_false,Bool.and_false]
theorem namesB_yes {g:Gm} (h1:∀ k (hk:k < g.rules.length),rightB g.rules[k].re = true) (h2:∀ k (hk:k < g.allN.length),namB g.allN[k] = true) (h3:∀ k i (hi:i < g.allN.length) (hk:k < i),g.allN[k]'(by omega) ≠ g.allN[i]):namesB g = true:=by
 unfold namesB
 have e1:(g.rules.all fun r => rightB r.re) = true:=by
  rw [List.all_eq_true]
  intro r hr
  obtain ⟨k,hk,rfl⟩:=List.getElem_of_mem hr
  exact h1 k hk
 have e2:g.allN.all namB = true:=by
  rw [List.all_eq_true]
  intro r hr
  obtain ⟨k,hk,rfl⟩:=List.getElem_of_mem hr
  exact h2 k hk
 have e3:decide g.allN.Nodup = true:=decide_eq_true (List.pairwise_iff_getElem.2 fun k i hk hi hki => h3 k i hi hki)
 rw [e1,e2,e3];rfl
theorem strT_beq2 (s t:Txt):((strT s).toList == (strT t).toList) = decide (s = t):=by
 rw [strT_toL,strT_toL]
 by_cases h:s = t
 · subst h;simp
 · simp [h]
set_option maxRecDepth 20000 in
set_option maxHeartbeats 16000000 in
theorem namesC (g:Gm) (rv nv lv pv:Value) (w:World) (hV:GmV w rv nv lv pv g) (hr:g.rules.length ≤ 1000) (hn:g.nonts.length ≤ 1000) (hnl:∀ t ∈ g.allN,t.length ≤ 1000000) :
 Calls Tryz.prog 53 #[gmA rv nv lv pv g.start] w fun e w' => e = .returned (.bool (namesB g)) ∧ Below w.heap.size w w':=by
 obtain ⟨ra,rc,rfl⟩:=hV.rules.shape
 obtain ⟨na,nc,rfl⟩:=hV.nonts.shape
 have hB1:=al' w (.cells #[.slice ra g.rules.length rc,.slice na g.nonts.length nc,lv,pv,.int .i64 g.start] 27)
 have k1:=heap_new w (.cells #[.slice ra g.rules.length rc,.slice na g.nonts.length nc,lv,pv,.int .i64 g.start] 27)
 obtain ⟨W,hW⟩:∃ x,w.alloc (.cells #[.slice ra g.rules.length rc,.slice na g.nonts.length nc,lv,pv,.int .i64 g.start] 27) = x:=⟨_,rfl⟩
 rw [hW] at hB1 k1
 have hk1:Hid (∀ u,Below W.heap.size W u → u.cell? ⟨w.heap.size,0,none⟩ = some (.slice ra g.rules.length rc) ∧ u.cell? ⟨w.heap.size,1,none⟩ = some (.slice na g.nonts.length nc)):=hid (fun u hu => ⟨blk_cell (hs_keep k1 hu) rfl,blk_cell (hs_keep k1 hu) rfl⟩)
 have hB:=hid hB1
 have hKr:Hid (∀ u,Below w.heap.size w u → ∀ k (hk:k < g.rules.length),∃ b o q1 q3,ra = some ⟨b,o,none⟩ ∧ u.cell? ⟨b,o + k * 3,none⟩ = some (.string (strT g.rules[k].name)) ∧ u.cell? ⟨b,o + k * 3 + 1,none⟩ = some (.slice q1 g.rules[k].re.length q3) ∧ Calls Tryz.prog 72 #[.slice q1 g.rules[k].re.length q3] u fun e w' => e = .returned (.bool (rightB g.rules[k].re)) ∧ w' = u):=hid (fun u hu k hk => by
  obtain ⟨b,o,e,-,hx⟩:=(hV.keep hu).rules.at hk
  obtain ⟨v,x0,x1,x2,hN⟩:=hx
  have hN2:=hN
  obtain ⟨q1,q3,rfl,_⟩:=hN2
  exact ⟨b,o,q1,q3,e,x0,x1,rightC _ _ u hN⟩)
 have hKn:Hid (∀ u,Below w.heap.size w u → Lst 1 TxtAt u (.slice na g.nonts.length nc) g.nonts):=hid (fun u hu => (hV.keep hu).nonts)
 have hbr:=hid (fun k (hk:k < g.rules.length) h => namesB_right hk h)
 have hbn:=hid (fun k (hk:k < g.allN.length) h => namesB_named hk h)
 have hbt:=hid (fun k i (hi:i < g.allN.length) (hk:k < i) h => namesB_twice hi hk h)
 have hby:=hid (fun h1 h2 h3 => namesB_yes (g:=g) h1 h2 h3)
 have GN:=hid (fun k (hk:k < g.allN.length) u => namedC g.allN[k] u (hnl _ (List.getElem_mem hk)))
 obtain ⟨F1,hF1⟩:∃ F:Nat → List Txt,Hid (∀ k,(g.rules.take k).map Rl.name = F k):=⟨_,hid (fun _ => rfl)⟩
 have s1:Hid (∀ k (hk:k < g.rules.length),F1 (k + 1) = F1 k ++ [g.rules[k].name]):=hid (fun k hk => by
  rw [← hF1.out,← hF1.out,List.take_add_one,List.getElem?_eq_getElem hk,Option.toList_some,List.map_append]
  rfl)
 have l1:Hid (∀ k,(F1 k).length ≤ 1000):=hid (fun k => by rw [← hF1.out,List.length_map,List.length_take];omega)
 have e1:Hid (F1 g.rules.length ++ g.nonts = g.allN):=hid (by rw [← hF1.out,List.take_length];rfl)
 have hO0:Hid (OwnT W W.heap.size (.slice none 0 0) (F1 0)):=hid (by rw [← hF1.out];exact World.ownsRow_nil _ _ _ _)
 have lA:g.allN.length ≤ 2000:=by unfold Gm.allN;rw [List.length_append,List.length_map];omega
 clear hV hB1 k1 hF1 hnl
 generalize namesB g = R at *
 obtain ⟨rn,hrn⟩:∃ n,Hid (g.rules.length = n):=⟨_,hid rfl⟩
 obtain ⟨nn,hnn⟩:∃ n,Hid (g.nonts.length = n):=⟨_,hid rfl⟩
 rw [hrn.out] at hr hk1 hW e1 ⊢
 rw [hnn.out] at hn hk1 hW hKn ⊢
 generalize g.start = st at *
 go_enter Tryz.func53,Tryz.ntmps53
 go_wp2
 clear hW
 go_loopw [3,4] (fun v i wr => ∃ k:Nat,k ≤ rn ∧ i = .int .i64 (k:Int) ∧ Hid (OwnT wr W.heap.size v (F1 k)) ∧ Hid (∀ j (hj:j < g.rules.length),j < k → rightB g.rules[j].re = true) ∧ Hid (Below W.heap.size W wr)) (fun _ i _ => rn - (intOf i).toNat)
 case atStart => exact ⟨0,Nat.zero_le _,rfl,hO0,hid (fun _ _ h => absurd h (Nat.not_lt_zero _)),hid (Below.refl _ _)⟩
 case round =>
  obtain ⟨k,hk,rfl,hO,hrt,hbl⟩:=hrel
  have hbw:=hid (bl_step hB.out hbl.out)
  obtain ⟨y0,y1⟩:=hk1.out wr hbl.out
  by_cases hlt:k < rn
  · have hltz:(k:Int) < (rn:Int):=by omega
    have hkl:k < g.rules.length:=by rw [hrn.out];exact hlt
    obtain ⟨b,o,q1,q3,e,x0,x1,-⟩:=hKr.out wr hbw.out k hkl
    subst e
    have hal:=al' wr (.cells #[.string (strT g.rules[k].name)] 9)
    have hOa:=hid (own_below hO.out hal)
    have hDa:=hid (txt_one wr g.rules[k].name)
    have hBa:=hid (bl_step hbl.out hal)
    have hs:=hid (s1.out k hkl)
    have hln:=l1.out k
    have hap:=hid (fun u (hu:Below W.heap.size W u) => hKr.out u (bl_step hB.out hu) k hkl)
    have hmore:Hid (rightB g.rules[k].re = true → ∀ j (hj:j < g.rules.length),j < k + 1 → rightB g.rules[j].re = true):=hid (fun h j hj h9 => by
     rcases Nat.lt_or_ge j k with h8 | h8
     · exact hrt.out j hj h8
     · obtain rfl:j = k:=by omega
       exact h)
    have hb9:=hid (fun h => hbr.out k hkl h)
    clear hal hO hrt hbr
    generalize g.rules[k].name = nm at *
    generalize g.rules[k].re.length = rl at *
    cases hrb:rightB g.rules[k].re with
    | true =>
     have hm9:=hid (hmore.out hrb)
     rw [hrb] at hap
     clear hmore hb9
     go_wp2_with (first
      | (at_builtin;refine wp_appT _ rfl _ _ rfl W.heap.size (F1 k) [nm] _ _ rfl rfl hOa.out hDa.out (by simp;omega) hBa.out.size ?_;intro v3 w3 hO3 hb3;have hO4:Hid (OwnT w3 W.heap.size v3 (F1 (k + 1))):=(by rw [hs.out];exact hid hO3);have hb4:=hid (hBa.out.trans hb3);obtain ⟨z0,z1⟩:=hk1.out w3 hb4.out;obtain ⟨b',o',q1',q3',e',x0',x1',G'⟩:=hap.out w3 hb4.out;injection e' with e';injection e' with e' e'' _;subst e' e'';have G':=hid G';clear hO3 hb3 hap hOa hDa)
      | (go_at_call 72;refine G'.out.mono ?_;clear G';rintro e w4 ⟨rfl,hc4⟩;subst w4))
     go_roundw
     case rel => exact ⟨k + 1,by omega,by go_num,hO4,hm9,hb4⟩
     case measure => simp [intOf];omega
    | false =>
     obtain rfl:=hb9.out hrb
     rw [hrb] at hap
     clear hmore hb9
     go_wp2_with (first
      | (at_builtin;refine wp_appT _ rfl _ _ rfl W.heap.size (F1 k) [nm] _ _ rfl rfl hOa.out hDa.out (by simp;omega) hBa.out.size ?_;intro v3 w3 hO3 hb3;have hb4:=hid (hBa.out.trans hb3);obtain ⟨z0,z1⟩:=hk1.out w3 hb4.out;obtain ⟨b',o',q1',q3',e',x0',x1',G'⟩:=hap.out w3 hb4.out;injection e' with e';injection e' with e' e'' _;subst e' e'';have G':=hid G';clear hO3 hb3 hap hOa hDa)
      | (go_at_call 72;refine G'.out.mono ?_;clear G';rintro e w4 ⟨rfl,hc4⟩;subst w4))
     go_ret
     exact ⟨rfl,bl_step hB.out hb4.out⟩
  · have hltz:¬ (k:Int) < (rn:Int):=by omega
    obtain rfl:k = rn:=by omega
    have hD:=hid (hKn.out wr hbw.out)
    have hln:=l1.out k
    have hrt9:=hid (fun j (hj:j < g.rules.length) => hrt.out j hj (by rw [hrn.out] at hj;exact hj))
    clear hrt hKr hbr s1 l1
    go_wp2_with (at_builtin;refine wp_appT _ rfl _ _ rfl W.heap.size (F1 k) g.nonts _ _ rfl rfl hO.out hD.out (by rw [hnn.out];omega) hbl.out.size ?_;intro v3 w3 hO3 hb3;rw [e1.out] at hO3;obtain ⟨va,vc,hve⟩:=own_shape hO3;subst hve;have hb4:=hid (hbl.out.trans hb3);have hO4:=hid hO3;clear hO3 hb3 hO hD)
    clear hltz hlt hk hbl hbw y0 y1 hKn hln hk1
    have hcell:Hid (∀ u,Below w3.heap.size w3 u → ∀ j (hj:j < g.allN.length),∃ gb,va = some ⟨gb,0,none⟩ ∧ u.cell? ⟨gb,j,none⟩ = some (.string (strT g.allN[j]))):=hid (fun u hu j hj => by
     obtain ⟨gb,e,hc⟩:=OwnT.at (own_below hO4.out hu) hj
     refine ⟨gb,e,?_⟩
     rw [hc,List.getD_eq_getElem?_getD,List.getElem?_eq_getElem hj]
     rfl)
    obtain ⟨n,hnA⟩:∃ n,Hid (g.allN.length = n):=⟨_,hid rfl⟩
    have hB4:=hid (bl_step hB.out hb4.out)
    rw [hnA.out] at lA ⊢
    clear hO4
    go_loopw [5] (fun i wr => ∃ k:Nat,k ≤ n ∧ i = .int .i64 (k:Int) ∧ Hid (∀ j (hj:j < g.allN.length),j < k → namB g.allN[j] = true) ∧ Hid (∀ a b (hb:b < g.allN.length) (hab:a < b),b < k → g.allN[a]'(by omega) ≠ g.allN[b]) ∧ Hid (Below w3.heap.size w3 wr)) (fun i _ => n - (intOf i).toNat)
    case atStart => exact ⟨0,Nat.zero_le _,rfl,hid (fun _ _ h => absurd h (Nat.not_lt_zero _)),hid (fun _ _ _ _ h => absurd h (Nat.not_lt_zero _)),hid (Below.refl _ _)⟩
    case round =>
     obtain ⟨k2,hk2,rfl,hq1,hq2,hbl⟩:=hrel
     by_cases hlt:k2 < n
     · have hltz:(k2:Int) < (n:Int):=by omega
       have hkl:k2 < g.allN.length:=by rw [hnA.out];exact hlt
       obtain ⟨gb,e,x0⟩:=hcell.out _ hbl.out k2 hkl
       subst e
       have G:=hid (GN.out k2 hkl wr)
       have hbn9:=hid (fun h => hbn.out k2 hkl h)
       cases hnb:namB g.allN[k2] with
       | false =>
        obtain rfl:=hbn9.out hnb
        rw [hnb] at G
        clear hnb hq1 hq2 hbn9
        generalize g.allN[k2] = tx at *
        go_wp2_with (go_at_call 73;refine G.out.mono ?_;clear G;rintro e w4 ⟨rfl,hc4⟩;subst w4)
        go_ret
        exact ⟨rfl,bl_step hB4.out hbl.out⟩
       | true =>
        rw [hnb] at G
        have hq3:Hid (∀ j (hj:j < g.allN.length),j < k2 + 1 → namB g.allN[j] = true):=hid (fun j hj h9 => by
         rcases Nat.lt_or_ge j k2 with h8 | h8
         · exact hq1.out j hj h8
         · obtain rfl:j = k2:=by omega
           exact hnb)
        clear hnb hq1 hbn9
        go_wp2_with (go_at_call 73;refine G.out.mono ?_;clear G;rintro e w4 ⟨rfl,hc4⟩;subst w4)
        clear x0 hltz
        go_loopw [6] (fun i wr => ∃ m:Nat,m ≤ k2 ∧ i = .int .i64 (m:Int) ∧ Hid (∀ a (ha:a < k2),a < m → g.allN[a]'(by omega) ≠ g.allN[k2]) ∧ Hid (Below w3.heap.size w3 wr)) (fun i _ => k2 - (intOf i).toNat)
        case atStart => exact ⟨0,Nat.zero_le _,rfl,hid (fun _ _ h => absurd h (Nat.not_lt_zero _)),hbl⟩
        case round =>
         clear hbl
         obtain ⟨m,hm,rfl,hq4,hbl⟩:=hrel
         by_cases hlm:m < k2
         · have hlmz:(m:Int) < (k2:Int):=by omega
           have hmn:(m:Int) < (n:Int):=by omega
           have hkn:(k2:Int) < (n:Int):=by omega
           have hml:m < g.allN.length:=by omega
           obtain ⟨gb1,e1,x1⟩:=hcell.out _ hbl.out m hml
           obtain ⟨gb2,e2,x2⟩:=hcell.out _ hbl.out k2 hkl
           injection e1 with e1
           injection e1 with e1 _ _
           injection e2 with e2
           injection e2 with e2 _ _
           subst e1 e2
           by_cases he:g.allN[m] = g.allN[k2]
           · obtain rfl:=hbt.out m k2 hkl hlm he
             have hz:((strT g.allN[m]).toList == (strT g.allN[k2]).toList) = true:=by rw [strT_beq2];exact decide_eq_true he
             clear hq4 hq2 he hq3
             generalize strT g.allN[m] = s1 at *
             generalize strT g.allN[k2] = s2 at *
             go_wp2_with fail
             go_quiet (fail)
             go_wp2
             go_ret
             exact ⟨rfl,by first | exact bl_step hB4.out (belowN hbl.out) | exact bl_step hB4.out (belowN (belowN hbl.out))⟩
           · have hq5:Hid (∀ a (ha:a < k2),a < m + 1 → g.allN[a]'(by omega) ≠ g.allN[k2]):=hid (fun a ha h9 => by
              rcases Nat.lt_or_ge a m with h8 | h8
              · exact hq4.out a ha h8
              · obtain rfl:a = m:=by omega
                exact he)
             have hz:((strT g.allN[m]).toList == (strT g.allN[k2]).toList) = false:=by rw [strT_beq2];exact decide_eq_false he
             clear hq4 he
             generalize strT g.allN[m] = s1 at *
             generalize strT g.allN[k2] = s2 at *
             go_wp2_with fail
             go_quiet (fail)
             go_wp2
             go_roundw
             case rel => exact ⟨m + 1,by omega,by go_num,hq5,hid (by first | exact belowN hbl.out | exact belowN (belowN hbl.out))⟩
             case measure => simp [intOf];omega
         · have hlmz:¬ (m:Int) < (k2:Int):=by omega
           have hq6:Hid (∀ a b (hb:b < g.allN.length) (hab:a < b),b < k2 + 1 → g.allN[a]'(by omega) ≠ g.allN[b]):=hid (fun a b hb hab h9 => by
            rcases Nat.lt_or_ge b k2 with h8 | h8
            · exact hq2.out a b hb hab h8
            · obtain rfl:b = k2:=by omega
              exact hq4.out a hab (by omega))
           clear hq4 hq2
           go_wp2
           go_roundw
           case rel => exact ⟨k2 + 1,by omega,by go_num,hq3,hq6,hbl⟩
           case measure => simp [intOf];omega
     · have hltz:¬ (k2:Int) < (n:Int):=by omega
       obtain rfl:=hby.out hrt9.out (fun j hj => hq1.out j hj (by rw [hnA.out] at hj;omega)) (fun a b hb hab => hq2.out a b hb hab (by rw [hnA.out] at hb;omega))
       clear hq1 hq2
       go_wp2
       go_ret
       exact ⟨rfl,bl_step hB4.out hbl.out⟩
end Go.Proofs.YtbpnioehmohbcaaGreat
