/- Items put in order, the maths: their order, and of those that stand in it each once. Package items: the order of items: it lays blocks, and turns nothing. Rows of items, as slices.SortFunc and slices.Compact lay them, and as lists have them. Package items: slices.Compact of a row of items of the call's own. -/
import Derived.Test.YtbpnioehmohbcaaGreatJ40
import Derived.Test.YtbpnioehmohbcaaGreatJ33
import Derived.Test.YtbpnioehmohbcaaGreatJ32
import Derived.Test.YtbpnioehmohbcaaGreatShelf
import Derived.Lib.SlicesCompact
import Derived.Shelf.SlSortCmp.InsertionK
import Derived.Shelf.SlSortCmp.QuietGrown
import Derived.Shelf.GgClosure.Gives
import Derived.Lib.OwnBridge
import Derived.Lib.SliceRun
import Derived.Shelf.GgSortFunc.InsertionK
import Derived.Deep.LoopGhost
import Derived.Sort.WalkB12
namespace Go.Proofs.YtbpnioehmohbcaaGreat
open Go.Sort Go.Lib
def leI (x y:It):Prop:=¬ ltI y x
theorem leI_refl (x:It):leI x x:=fun h => ltI_irr h
theorem leI_trans {x y z:It} (h:leI x y) (h2:leI y z):leI x z:=by
 unfold leI ltI at *
 omega
theorem leI_anti {x y:It} (h:leI x y) (h2:leI y x):x = y:=by
 obtain ⟨a,b⟩:=x
 obtain ⟨c,d⟩:=y
 unfold leI ltI at *
 simp only [Prod.mk.injEq]
 simp only at h h2
 omega
theorem leI_lt {x y:It} (h:leI x y) (h2:x ≠ y):ltI x y:=by
 by_cases e:ltI x y
 · exact e
 · exact absurd (leI_anti h e) h2
def cfI (x y:It):Int:=if Lib.compareInt x.1 y.1 = 0 then Lib.compareInt x.2 y.2 else Lib.compareInt x.1 y.1
theorem cfI_neg (x y:It):cfI x y < 0 ↔ ltI x y:=by
 unfold cfI Lib.compareInt ltI
 repeat' split
 all_goals omega
instance (x y:It):Decidable (ltI x y):=by unfold ltI;infer_instance
theorem ltOf_cfI (x y:It):ltOf cfI x y = decide (ltI x y):=by
 unfold ltOf
 exact decide_eq_decide.2 (cfI_neg x y)
theorem swoI:SWO (ltOf cfI) where
 irrefl x:=by rw [ltOf_cfI];exact decide_eq_false fun h => ltI_irr h
 trans x y z h1 h2:=by
  rw [ltOf_cfI] at *
  have a:=of_decide_eq_true h1
  have b:=of_decide_eq_true h2
  exact decide_eq_true (by unfold ltI at *;omega)
 ntrans x y z h1 h2:=by
  rw [ltOf_cfI] at *
  have a:=of_decide_eq_false h1
  have b:=of_decide_eq_false h2
  exact decide_eq_false (by unfold ltI at *;omega)
theorem memI_compact (zs:List It) (x:It):x ∈ Lib.compact zs ↔ x ∈ zs:=by
 have key:∀ m,m ≤ zs.length → ∀ y,y ∈ Lib.compactUpTo zs.toArray m ↔ y ∈ zs.take m:=by
  intro m
  induction m with
  | zero => intro _ y;simp [Lib.compactUpTo]
  | succ m ih =>
   intro hm y
   have hlt:m < zs.length:=hm
   rw [Lib.compactUpTo_succ,List.mem_append,ih (by omega),List.take_succ_eq_append_getElem hlt,List.mem_append]
   have hg:zs.toArray[m]! = zs[m]:=by simp [getElem!_pos,hlt]
   cases hk:Lib.keeps zs.toArray m with
   | true => simp [hg]
   | false =>
    simp only [Bool.false_eq_true,if_false,List.not_mem_nil,or_false,List.mem_singleton]
    constructor
    · exact Or.inl
    · rintro (h | h)
      · exact h
      · have hm0:m ≠ 0:=by rintro rfl;rw [Lib.keeps_lt_one _ 0 (by omega)] at hk;cases hk
        have he:zs.toArray[m]! = zs.toArray[m - 1]!:=by
         by_cases e:zs.toArray[m]! = zs.toArray[m - 1]!
         · exact e
         · rw [Lib.keeps_pos e] at hk;cases hk
        have hg1:zs.toArray[m - 1]! = zs[m - 1]'(by omega):=by simp [getElem!_pos,show m - 1 < zs.length by omega]
        rw [h,← hg,he,hg1]
        exact List.mem_take_iff_getElem.2 ⟨m - 1,by omega,rfl⟩
 have:=key zs.length (Nat.le_refl _) x
 rw [List.take_of_length_le (Nat.le_refl _)] at this
 simpa [Lib.compact] using this
theorem upI_compact (zs:List It) (hs:zs.Pairwise leI):List.Pairwise ltI (Lib.compact zs):=by
 have key:∀ m,m ≤ zs.length → List.Pairwise ltI (Lib.compactUpTo zs.toArray m) ∧ ∀ y ∈ Lib.compactUpTo zs.toArray m,y ∈ zs.take m:=by
  intro m
  induction m with
  | zero => intro _;simp [Lib.compactUpTo]
  | succ m ih =>
   intro hm
   have hlt:m < zs.length:=hm
   obtain ⟨h1,h2⟩:=ih (by omega)
   have hg:zs.toArray[m]! = zs[m]:=by simp [getElem!_pos,hlt]
   rw [Lib.compactUpTo_succ,List.take_succ_eq_append_getElem hlt]
   cases hk:Lib.keeps zs.toArray m with
   | false =>
    simp only [Bool.false_eq_true,if_false,List.append_nil]
    exact ⟨h1,fun y hy => List.mem_append_left _ (h2 y hy)⟩
   | true =>
    simp only [if_true,hg]
    refine ⟨List.pairwise_append.2 ⟨h1,List.pairwise_singleton _ _,fun y hy z hz => ?_⟩,fun y hy => ?_⟩
    · rw [List.mem_singleton] at hz
      subst hz
      obtain ⟨i,hi,rfl⟩:=List.mem_take_iff_getElem.1 (h2 y hy)
      have him:i < m:=by omega
      have hm0:0 < m:=by omega
      have hg1:zs.toArray[m - 1]! = zs[m - 1]'(by omega):=by simp [getElem!_pos,show m - 1 < zs.length by omega]
      have hne:zs[m - 1]'(by omega) ≠ zs[m]:=by
       intro e
       rw [Lib.keeps_neg hm0 (by rw [hg,hg1,e])] at hk
       cases hk
      have hle:=List.pairwise_iff_getElem.1 hs
      have h3:leI (zs[m - 1]'(by omega)) zs[m]:=hle (m - 1) m (by omega) hlt (by omega)
      have h4:leI (zs[i]'(by omega)) (zs[m - 1]'(by omega)):=by
       by_cases e:i = m - 1
       · subst e;exact leI_refl _
       · exact hle i (m - 1) (by omega) (by omega) (by omega)
      exact leI_lt (leI_trans h4 h3) (fun e => hne (leI_anti h3 (e ▸ h4)))
    · rcases List.mem_append.1 hy with hy | hy
      · exact List.mem_append_left _ (h2 y hy)
      · exact List.mem_append_right _ hy
 exact (key zs.length (Nat.le_refl _)).1
theorem compI_len (zs:List It):(Lib.compact zs).length ≤ zs.length:=by
 unfold Lib.compact Lib.compactUpTo
 rw [List.length_map]
 exact Nat.le_trans (List.length_filter_le _ _) (by rw [List.length_range];exact Nat.le_refl _)
end Go.Proofs.YtbpnioehmohbcaaGreat
namespace Go.Proofs.YtbpnioehmohbcaaGreat
open Go.RowKit Go.Sort Go.Lib
set_option maxRecDepth 20000 in
set_option maxHeartbeats 2000000 in
theorem cmpOr2 (b:Nat) (x y:Int) (w:World) (h0:w.cell? ⟨b,0,none⟩ = some (.int .i64 x)) (h1:w.cell? ⟨b,1,none⟩ = some (.int .i64 y)) :
 Calls Tryz.prog 76 #[.slice (some ⟨b,0,none⟩) 2 2] w fun e w' => e = .returned (.int .i64 (if x = 0 then y else x)) ∧ w' = w:=by
 by_cases hx:x = 0
 · rw [if_pos hx]
   subst hx
   by_cases hy:y = 0
   · subst hy
     go_enter Tryz.func76,Tryz.ntmps76
     go_wp2
     refine wp_loop_rounds 3 ?_
     rw [rounds_succ]
     go_wp2
     rw [rounds_succ]
     go_wp2
     rw [rounds_succ]
     go_wp2
     go_ret
     exact ⟨rfl,rfl⟩
   · go_enter Tryz.func76,Tryz.ntmps76
     go_wp2
     refine wp_loop_rounds 3 ?_
     rw [rounds_succ]
     go_wp2
     rw [rounds_succ]
     go_wp2
     go_ret
     exact ⟨rfl,rfl⟩
 · rw [if_neg hx]
   go_enter Tryz.func76,Tryz.ntmps76
   go_wp2
   refine wp_loop_rounds 3 ?_
   rw [rounds_succ]
   go_wp2
   go_ret
   exact ⟨rfl,rfl⟩
theorem step_callU {P:Program} {ops:Array Oper} {o:Oper} {a:Act} {w:World} {K:Act → World → Prop} {Q:Exit → Act → World → Prop} {E:Prop} (hw:Region.wanted o (yielded ops a.tmps) = true) (f:FuncId) (args:Array Value)
 (hrun:(execOp a.eval o).run P w = .ok (.enter f args) w) {R:Ending → World → Prop} (hc:Calls P f args w R) (h:∀ e w',R e w' → ∃ v,e = .returned v ∧ K (a.put o.dst v) w') :
 if Region.wanted o (yielded ops a.tmps) = true then Oper.wp P o a w K Q else E:=by
 rw [if_pos hw]
 unfold Oper.wp
 rw [hrun,Oper.upon_enter]
 refine hc.mono fun e w' hr => ?_
 obtain ⟨v,rfl,hk⟩:=h e w' hr
 exact hk
def grH (p q:Int) (c:Option Value) (w:World) (v:Value):Prop:=match c with
 | some V => v = V
 | none => ∃ b,v = .slice (some ⟨b,0,none⟩) 2 2 ∧ w.cell? ⟨b,0,none⟩ = some (.int .i64 p) ∧ w.cell? ⟨b,1,none⟩ = some (.int .i64 q)
theorem grH_keep {p q:Int} {c:Option Value} {w:World} {v:Value} (h:grH p q c w v) (n:Nat) (os:Array Obj):grH p q c (grow (w.drewN n) os) v:=by
 cases c with
 | some V => exact h
 | none =>
  obtain ⟨b,rfl,h0,h1⟩:=h
  exact ⟨b,rfl,cell_grown (World.block_lt_of_cell? w _ h0) h0 n os,cell_grown (World.block_lt_of_cell? w _ h1) h1 n os⟩
def grOb (P:Program) (Q:Exit → Act → World → Prop) (W0:World) (p q:Int) (C:List (Option Value)) (l:List Oper) (A:(Nat → Value) → Act) (i:Nat) (o:Oper):Prop:=
 ∀ (xs:Nat → Value) (n:Nat) (os:Array Obj) (u:World) (a:Act),A xs = a → u = grow (W0.drewN n) os → (∀ j,(o.after.toList.any fun e => Region.binds .any e && decide (e.on = j)) = true → grH p q (C.getD j none) u (xs j)) →
  ∀ K:Act → World → Prop,(∀ v n' os' u',u' = grow (u.drewN n') os' → grH p q (C.getD i none) u' v → K (a.put o.dst v) u') →
   if Region.wanted o (yielded l.toArray a.tmps) = true then o.wp P a u K Q else K (a.put o.dst undef) u
theorem below_growN (w:World) (n:Nat) (os:Array Obj):Below w.heap.size w (grow (w.drewN n) os):=Go.Proofs.below_grown w n os
theorem grow_two (w:World) (n n':Nat) (os os':Array Obj):grow ((grow (w.drewN n) os).drewN n') os' = grow (w.drewN (n + n')) (os ++ os'):=by
 show grow (grow ((w.drewN n).drewN n') os) os' = _
 rw [grow_grow,World.drewN_drewN]
theorem wp_region_gr {P:Program} {Q:Exit → Act → World → Prop} (p q:Int) (C:List (Option Value)) {A:(Nat → Value) → Act} {id:Nat} {l:List Oper} {a0:Act} {W0:World} (hm:P.follows .mixedOrders = true) (hB:rgB l = true)
 (hA:∀ xs,putL l 0 xs a0 = A xs) (hop:rgAll (grOb P Q W0 p q C l A) 0 l)
 (hfin:∀ xs n os u a,A xs = a → u = grow (W0.drewN n) os → (∀ j,decide (j < l.length) = true → grH p q (C.getD j none) u (xs j)) → Q .normal a u):(Code.region id l.toArray true).wp P Q a0 W0:=by
 refine wp_region_rg (G:=Unit) (fun _ w => ∃ n os,w = grow (W0.drewN n) os) (fun i _ w v => grH p q (C.getD i none) w v) (fun _ => none) () hm hB hA ⟨1,#[],(grow_empty _).symm⟩ ?_ (fun xs γ w h1 h2 => ?_)
 · have:∀ (l':List Oper) (k:Nat),rgAll (grOb P Q W0 p q C l A) k l' → rgAll (rgOb P Q (fun (_:Unit) w => ∃ n os,w = grow (W0.drewN n) os) (fun i _ w v => grH p q (C.getD i none) w v) (fun _ => none) l A) k l':=by
    intro l'
    induction l' with
    | nil => intro k _;trivial
    | cons o l' ih =>
     intro k h
     refine ⟨?_,ih (k + 1) h.2⟩
     intro xs γ w hI hd K hK
     obtain ⟨n,os,e⟩:=hI
     refine h.1 xs n os w (A xs) rfl e (fun j hj => ?_) K (fun v n' os' u' hu hv => hK v () u' ⟨n + n',os ++ os',by rw [hu,e,grow_two]⟩ hv (fun j u _ _ hh => by rw [hu];exact grH_keep hh n' os'))
     rw [List.any_eq_true] at hj
     obtain ⟨e,he,h2⟩:=hj
     simp only [Bool.and_eq_true,decide_eq_true_eq] at h2
     obtain ⟨hb,rfl⟩:=h2
     exact hd e he hb (.inl rfl)
   exact this l 0 hop
 · obtain ⟨n,os,e⟩:=h1
   exact hfin xs n os w (A xs) rfl e fun j hj => h2 j (of_decide_eq_true hj) (fun k hk => by cases hk)
set_option maxRecDepth 20000 in
set_option maxHeartbeats 4000000 in
theorem orderE (x y:It) (W:World):Calls Tryz.prog 57 #[itV x,itV y] W fun e w' => e = .returned (.int .i64 (cfI x y)) ∧ ∃ q os',w' = grow (W.drewN q) os':=by
 obtain ⟨xa,xb⟩:=x
 obtain ⟨ya,yb⟩:=y
 unfold cfI
 show Calls Tryz.prog 57 #[.agg #[.int .i64 xa,.int .i64 xb],.agg #[.int .i64 ya,.int .i64 yb]] W _
 have G1:=hid (fun u => Tryz.cmp_Compare_int xa ya u)
 have G2:=hid (fun u => Tryz.cmp_Compare_int xb yb u)
 simp only
 generalize Lib.compareInt xa ya = p at *
 generalize Lib.compareInt xb yb = q at *
 have GO:=hid (fun b u h0 h1 => cmpOr2 b p q u h0 h1)
 generalize (if p = 0 then q else p) = r at *
 have hk1:=hs_keep (heap_new W (.cells #[.int .i64 xa,.int .i64 xb] 29)) (al' (W.alloc (.cells #[.int .i64 xa,.int .i64 xb] 29)) (.cells #[.int .i64 ya,.int .i64 yb] 29))
 have hk2:=heap_new (W.alloc (.cells #[.int .i64 xa,.int .i64 xb] 29)) (.cells #[.int .i64 ya,.int .i64 yb] 29)
 have hsz:(W.alloc (.cells #[.int .i64 xa,.int .i64 xb] 29)).heap.size = W.heap.size + 1:=World.size_alloc _ _
 rw [hsz] at hk2
 obtain ⟨W2,hW⟩:∃ x,(W.alloc (.cells #[.int .i64 xa,.int .i64 xb] 29)).alloc (.cells #[.int .i64 ya,.int .i64 yb] 29) = x:=⟨_,rfl⟩
 have hg:Hid (W2 = grow W #[.cells #[.int .i64 xa,.int .i64 xb] 29,.cells #[.int .i64 ya,.int .i64 yb] 29]):=hid (by rw [← hW,alloc_eq_grow,alloc_eq_grow,grow_grow];rfl)
 rw [hW] at hk1 hk2
 have hcl:=hid (fun n os u (hu:u = grow (W2.drewN n) os) => by
  have hb:Below W2.heap.size W2 u:=by rw [hu];exact below_growN W2 n os
  obtain ⟨a0,a1⟩:=cells2h (hs_keep hk1 hb)
  obtain ⟨b0,b1⟩:=cells2h (hs_keep hk2 hb)
  exact (⟨a0,a1,b0,b1⟩:u.cell? ⟨W.heap.size,0,none⟩ = some (.int .i64 xa) ∧ u.cell? ⟨W.heap.size,1,none⟩ = some (.int .i64 xb) ∧ u.cell? ⟨W.heap.size + 1,0,none⟩ = some (.int .i64 ya) ∧ u.cell? ⟨W.heap.size + 1,1,none⟩ = some (.int .i64 yb)))
 clear hk1 hk2 hsz
 go_enter Tryz.func57,Tryz.ntmps57
 go_wp2_with fail
 refine wp_region_gr p q [some (.pointer (some ⟨W.heap.size,0,none⟩)),some (.int .i64 xa),some (.pointer (some ⟨W.heap.size + 1,0,none⟩)),some (.int .i64 ya),some (.int .i64 p),some (.pointer (some ⟨W.heap.size,1,none⟩)),some (.int .i64 xb),some (.pointer (some ⟨W.heap.size + 1,1,none⟩)),some (.int .i64 yb),some (.int .i64 q),none,some (.int .i64 r),some (.int .i64 r)] (by kernel_rfl) (by kernel_rfl) (by intro xs;simp only [putL,Nat.reduceAdd,Act.put,List.setIfInBounds_toArray,List.set_cons_zero,List.set_cons_succ];rfl) ?_ ?_
 · refine rgAll_cons ?_ (rgAll_cons ?_ (rgAll_cons ?_ (rgAll_cons ?_ (rgAll_cons ?_ (rgAll_cons ?_ (rgAll_cons ?_ (rgAll_cons ?_ (rgAll_cons ?_ (rgAll_cons ?_ (rgAll_cons ?_ (rgAll_cons ?_ (rgAll_cons ?_ (rgAll_nil)))))))))))))
   · intro xs n os u fr hA hu1 hd K hK
     have hu:=hid hu1
     clear hu1
     try dsimp only at hA
     subst hA
     have hK:=hK _ 0 #[] u (grow_empty _).symm rfl
     go_simp
     exact hK
   · intro xs n os u fr hA hu1 hd K hK
     have hu:=hid hu1
     clear hu1
     try dsimp only at hA
     generalize hx0:xs 0 = z0 at hA
     have e0:=hd 0 rfl
     rw [hx0] at e0
     have e0:z0 = _:=e0
     subst e0
     subst hA
     obtain ⟨y0,y1,y2,y3⟩:=hcl.out n os u hu.out
     have hK:=hK _ 0 #[] u (grow_empty _).symm rfl
     go_simp
     exact hK
   · intro xs n os u fr hA hu1 hd K hK
     have hu:=hid hu1
     clear hu1
     try dsimp only at hA
     subst hA
     have hK:=hK _ 0 #[] u (grow_empty _).symm rfl
     go_simp
     exact hK
   · intro xs n os u fr hA hu1 hd K hK
     have hu:=hid hu1
     clear hu1
     try dsimp only at hA
     generalize hx2:xs 2 = z2 at hA
     have e2:=hd 2 rfl
     rw [hx2] at e2
     have e2:z2 = _:=e2
     subst e2
     subst hA
     obtain ⟨y0,y1,y2,y3⟩:=hcl.out n os u hu.out
     have hK:=hK _ 0 #[] u (grow_empty _).symm rfl
     go_simp
     exact hK
   · intro xs n os u fr hA hu1 hd K hK
     have hu:=hid hu1
     clear hu1
     try dsimp only at hA
     generalize hx1:xs 1 = z1 at hA
     have e1:=hd 1 rfl
     rw [hx1] at e1
     have e1:z1 = _:=e1
     subst e1
     generalize hx3:xs 3 = z3 at hA
     have e3:=hd 3 rfl
     rw [hx3] at e3
     have e3:z3 = _:=e3
     subst e3
     subst hA
     refine step_callU (by rfl) 77 #[.int .i64 xa,.int .i64 ya] (by go_simp) (G1.out u) ?_
     rintro e u' ⟨rfl,rfl⟩
     exact ⟨_,rfl,hK _ 0 #[] _ (grow_empty _).symm rfl⟩
   · intro xs n os u fr hA hu1 hd K hK
     have hu:=hid hu1
     clear hu1
     try dsimp only at hA
     subst hA
     have hK:=hK _ 0 #[] u (grow_empty _).symm rfl
     go_simp
     exact hK
   · intro xs n os u fr hA hu1 hd K hK
     have hu:=hid hu1
     clear hu1
     try dsimp only at hA
     generalize hx5:xs 5 = z5 at hA
     have e5:=hd 5 rfl
     rw [hx5] at e5
     have e5:z5 = _:=e5
     subst e5
     subst hA
     obtain ⟨y0,y1,y2,y3⟩:=hcl.out n os u hu.out
     have hK:=hK _ 0 #[] u (grow_empty _).symm rfl
     go_simp
     exact hK
   · intro xs n os u fr hA hu1 hd K hK
     have hu:=hid hu1
     clear hu1
     try dsimp only at hA
     subst hA
     have hK:=hK _ 0 #[] u (grow_empty _).symm rfl
     go_simp
     exact hK
   · intro xs n os u fr hA hu1 hd K hK
     have hu:=hid hu1
     clear hu1
     try dsimp only at hA
     generalize hx7:xs 7 = z7 at hA
     have e7:=hd 7 rfl
     rw [hx7] at e7
     have e7:z7 = _:=e7
     subst e7
     subst hA
     obtain ⟨y0,y1,y2,y3⟩:=hcl.out n os u hu.out
     have hK:=hK _ 0 #[] u (grow_empty _).symm rfl
     go_simp
     exact hK
   · intro xs n os u fr hA hu1 hd K hK
     have hu:=hid hu1
     clear hu1
     try dsimp only at hA
     generalize hx6:xs 6 = z6 at hA
     have e6:=hd 6 rfl
     rw [hx6] at e6
     have e6:z6 = _:=e6
     subst e6
     generalize hx8:xs 8 = z8 at hA
     have e8:=hd 8 rfl
     rw [hx8] at e8
     have e8:z8 = _:=e8
     subst e8
     subst hA
     refine step_callU (by rfl) 77 #[.int .i64 xb,.int .i64 yb] (by go_simp) (G2.out u) ?_
     rintro e u' ⟨rfl,rfl⟩
     exact ⟨_,rfl,hK _ 0 #[] _ (grow_empty _).symm rfl⟩
   · intro xs n os u fr hA hu1 hd K hK
     have hu:=hid hu1
     clear hu1
     try dsimp only at hA
     generalize hx4:xs 4 = z4 at hA
     have e4:=hd 4 rfl
     rw [hx4] at e4
     have e4:z4 = _:=e4
     subst e4
     generalize hx9:xs 9 = z9 at hA
     have e9:=hd 9 rfl
     rw [hx9] at e9
     have e9:z9 = _:=e9
     subst e9
     subst hA
     have hK:=hK _ 0 #[.cells #[.int .i64 p,.int .i64 q] 3] (u.alloc (.cells #[.int .i64 p,.int .i64 q] 3)) (alloc_eq_grow _ _) ⟨u.heap.size,rfl,(cells2h (heap_new u _)).1,(cells2h (heap_new u _)).2⟩
     go_simp
     exact hK
   · intro xs n os u fr hA hu1 hd K hK
     have hu:=hid hu1
     clear hu1
     try dsimp only at hA
     generalize hx10:xs 10 = z10 at hA
     have e10:=hd 10 rfl
     rw [hx10] at e10
     obtain ⟨b9,rfl,c0,c1⟩:=e10
     subst hA
     refine step_callU (by rfl) 76 #[.slice (some ⟨b9,0,none⟩) 2 2] (by go_simp) (GO.out b9 u c0 c1) ?_
     rintro e u' ⟨rfl,rfl⟩
     exact ⟨_,rfl,hK _ 0 #[] _ (grow_empty _).symm rfl⟩
   · intro xs n os u fr hA hu1 hd K hK
     have hu:=hid hu1
     clear hu1
     try dsimp only at hA
     generalize hx11:xs 11 = z11 at hA
     have e11:=hd 11 rfl
     rw [hx11] at e11
     have e11:z11 = _:=e11
     subst e11
     subst hA
     have hK:=hK _ 0 #[] u (grow_empty _).symm rfl
     go_simp
     exact hK
 · intro xs n os u fr hA hu1 hd
   have hu:=hid hu1
   clear hu1
   try dsimp only at hA
   generalize hx12:xs 12 = z12 at hA
   have e12:=hd 12 rfl
   rw [hx12] at e12
   have e12:z12 = _:=e12
   subst e12
   subst hA
   go_wp2
   go_ret
   refine ⟨rfl,n,#[.cells #[.int .i64 xa,.int .i64 xb] 29,.cells #[.int .i64 ya,.int .i64 yb] 29] ++ os,?_⟩
   rw [hu.out,hg.out]
   show grow (grow (W.drewN n) _) os = _
   rw [grow_grow]
end Go.Proofs.YtbpnioehmohbcaaGreat
namespace Go.Proofs.YtbpnioehmohbcaaGreat
open Go.RowKit Go.Sort Go.Lib
theorem itC_get (x:It):(itC x)[0]! = .int .i64 x.1 ∧ (itC x)[1]! = .int .i64 x.2:=⟨rfl,rfl⟩
theorem itC_len (x:It):(itC x).length = 2:=rfl
theorem itC_one (x:It):∀ v ∈ itC x,v.oneCell' = true:=fun v hv => by
 unfold itC at hv
 simp only [List.mem_cons,List.not_mem_nil,or_false] at hv
 rcases hv with rfl | rfl <;> rfl
theorem flat_it (d:Array It) (j:Nat) (hj:j < d.size * 2):(itCells d.toList)[j]? = some ((flatK itC 2 d)[j]!):=by
 have hq:j / 2 < d.toList.length:=by rw [Array.length_toList];omega
 obtain ⟨h0,h1⟩:=itCells_at d.toList (j / 2) hq
 rw [get_flatK _ _ _ j hj]
 have hd:d[j / 2]! = d.toList[j / 2]:=by rw [getElem!_pos d (j / 2) (by simpa using hq),Array.getElem_toList]
 rw [hd]
 obtain ⟨g0,g1⟩:=itC_get d.toList[j / 2]
 rcases Nat.mod_two_eq_zero_or_one j with hm | hm
 · rw [hm,g0,← h0,show j / 2 * 2 = j by omega]
 · rw [hm,g1,← h1,show j / 2 * 2 + 1 = j by omega]
theorem itCells_take (l:List It) (n:Nat):itCells (l.take n) = (itCells l).take (n * 2):=by
 induction l generalizing n with
 | nil => simp [itCells]
 | cons a l ih =>
  cases n with
  | zero => simp [itCells]
  | succ n =>
   have e:∀ m,itCells (a :: m) = itC a ++ itCells m:=fun _ => rfl
   rw [List.take_succ_cons,e,e,ih,List.take_append,itC_len,show (n + 1) * 2 - 2 = n * 2 by omega,List.take_of_length_le (l:=itC a) (by rw [itC_len];omega)]
theorem holdsRow {w:World} {B g cap:Nat} {d:Array It} (h:OwnIt w B (.slice (some ⟨g,0,none⟩) d.size cap) d.toList):HoldsK itC 2 w g 0 d:=fun j hj => by
 rw [size_flatK] at hj
 have h1:=h.cells rfl j _ (flat_it d j hj)
 rw [Go.WideShapes.add_plain] at h1
 exact ⟨h1,h.frozenAt _⟩
theorem own_laid {w:World} {B g cap m n:Nat} {d d':Array It} (h:OwnIt w B (.slice (some ⟨g,0,none⟩) d.size cap) d.toList) (hs:d'.size = d.size) (hn:n ≤ d.size) :
 OwnIt (putRowK itC 2 (Sort.ahead w m) g 0 d') B (.slice (some ⟨g,0,none⟩) n cap) (d'.toList.take n):=by
 have hl:d.toList.length = d.size:=Array.length_toList
 have hln:(d'.toList.take n).length = n:=by rw [List.length_take,Array.length_toList];omega
 rcases h.2 with ⟨e0,_⟩ | ⟨g',cap',cur,e0,hb,hg,hn',hm,hsz,ht⟩
 · cases e0
 · injection e0 with e1 e2 e3
   injection e1 with e1
   injection e1 with e1
   subst e1;subst e3
   unfold OwnIt
   rw [hln]
   refine ⟨by rw [itCells_len,hln],.inr ⟨g,cap,putCells id 0 (flatK itC 2 d') cur,rfl,hb,?_,by rw [hl] at hn';omega,hm,by simpa [putCells] using hsz,?_⟩⟩
   · simp [putRowK,putRow,mapBlock,Sort.ahead,Array.getElem?_modify,hg,onCells]
   · rw [itCells_take]
     apply List.ext_getElem?
     intro j
     rw [List.getElem?_take,List.getElem?_take,Array.getElem?_toList]
     by_cases hj:j < n * 2
     · have hjd:j < d'.size * 2:=by rw [hs];omega
       have hjc:j < cur.size:=by rw [hsz];have:d.size * 2 ≤ cap * 2:=Nat.mul_le_mul_right 2 (by rw [hl] at hn';exact hn');omega
       rw [if_pos hj,if_pos hj,flat_it d' j hjd]
       simp only [putCells,Array.getElem?_mapIdx,Array.getElem?_eq_getElem hjc,Option.map_some]
       rw [if_pos (by rw [size_flatK,hs];omega)]
       simp
     · rw [if_neg hj,if_neg hj]
theorem itC_swap (d:Array It) (i:Nat) (x:It) (hi:i < d.size):setMany (flatK itC 2 d) (i * 2) (itC x) = flatK itC 2 (d.setIfInBounds i x):=by
 refine ext_get! (by simp) fun t ht => ?_
 have ht':t < d.size * 2:=by simpa using ht
 rw [get_setMany _ _ _ t (by simpa using ht'),get_flatK _ _ _ t ht',get_flatK _ _ _ t (by simpa using ht'),itC_len]
 have hq:t / 2 < d.size:=by omega
 by_cases a:t / 2 = i
 · rw [if_pos (by omega)]
   subst a
   rw [show t - t / 2 * 2 = t % 2 by omega]
   simp [hi]
 · rw [if_neg (by omega)]
   simp [hq,Ne.symm a]
theorem store_it {w:World} {q g i:Nat} {d:Array It} (hi:i < d.size) (x:It) :
 ((putRowK itC 2 (Sort.ahead w q) g 0 d).setCell ⟨g,i * 2,none⟩ (.int .i64 x.1)).setCell ⟨g,i * 2 + 1,none⟩ (.int .i64 x.2) = putRowK itC 2 (Sort.ahead w q) g 0 (d.setIfInBounds i x):=by
 unfold putRowK
 have h:=setCells_putRow (Sort.ahead w q) g 0 (itC x) (i * 2) (flatK itC 2 d) (by rw [itC_len,size_flatK];omega)
 rw [itC_swap d i x hi,Nat.zero_add] at h
 exact h
set_option maxRecDepth 20000 in
theorem run_clear_it (w:World) (ty:TypeId) (b o n c:Nat) (hn:0 < n) (hc:∀ j,j < n * 2 → (w.cell? ⟨b,o + j,none⟩).isSome = true) (hf:∀ j,j < n * 2 → w.frozen? ⟨b,o + j,none⟩ = false) :
 (Builtin.clear_ #[36] ty #[.slice (some ⟨b,o,none⟩) n c]).run Tryz.prog w = .ok (.tuple #[]) (w.setCells b o (List.replicate (n * 2) (.int .i64 0))):=by
 have hzc:(Builtin.zeroCells #[.int .i64 0,.int .i64 0] n).toList = List.replicate (n * 2) (Value.int .i64 0):=by
  simp [Builtin.zeroCells]
  apply List.ext_getElem
  · simp
  · intro i h1 h2
    rcases Nat.mod_two_eq_zero_or_one i with hm | hm <;> simp [hm]
 have hst:=run_storeCells_cells (P:=Tryz.prog) b o (List.replicate (n * 2) (Value.int .i64 0)) 0 w (by simpa using hc) (by simpa using hf) (by intro v hv';rw [List.eq_of_mem_replicate hv'];rfl)
 simp only [Nat.add_zero] at hst
 have hv:(zeroValue 29).run Tryz.prog w = .ok (.agg #[.int .i64 0,.int .i64 0]) w:=Tryz.zeroValue29 w
 have hcl:(Value.agg #[.int .i64 0,.int .i64 0]).cells = #[.int .i64 0,.int .i64 0]:=rfl
 obtain ⟨m,rfl⟩:∃ m,n = m + 1:=⟨n - 1,by omega⟩
 simp [Builtin.clear_,run_underlying Tryz.underlying36,hv,hcl,hzc,hst]
theorem clear_laid {w:World} {q g k n:Nat} {d:Array It} (hn:k + n ≤ d.size):(putRowK itC 2 (Sort.ahead w q) g 0 d).setCells g (k * 2) (List.replicate (n * 2) (.int .i64 0)) = putRowK itC 2 (Sort.ahead w q) g 0 (lay d k (List.replicate n (0,0))):=by
 induction n generalizing k d with
 | zero => rfl
 | succ n ih =>
  have e:List.replicate ((n + 1) * 2) (Value.int .i64 0) = .int .i64 0 :: .int .i64 0 :: List.replicate (n * 2) (.int .i64 0):=by
   rw [show (n + 1) * 2 = n * 2 + 1 + 1 by omega,List.replicate_succ,List.replicate_succ]
  rw [e,List.replicate_succ,lay,World.setCells,World.setCells]
  have h:=store_it (w:=w) (q:=q) (g:=g) (i:=k) (d:=d) (by omega) (0,0)
  simp only at h
  rw [h,show k * 2 + 1 + 1 = (k + 1) * 2 by omega]
  exact ih (by rw [Array.size_setIfInBounds];omega)
end Go.Proofs.YtbpnioehmohbcaaGreat
namespace Go.Proofs.YtbpnioehmohbcaaGreat
open Go.RowKit Go.Sort Go.Lib
theorem holds_it {w:World} {g:Nat} {d:Array It} (h:HoldsK itC 2 w g 0 d) {i:Nat} (hi:i < d.size) :
 w.cell? ⟨g,i * 2,none⟩ = some (.int .i64 d[i]!.1) ∧ w.cell? ⟨g,i * 2 + 1,none⟩ = some (.int .i64 d[i]!.2) ∧ w.frozen? ⟨g,i * 2,none⟩ = false ∧ w.frozen? ⟨g,i * 2 + 1,none⟩ = false:=by
 have h0:=h.cell hi (show 0 < 2 by omega)
 have h1:=h.cell hi (show 1 < 2 by omega)
 simp only [Nat.zero_add,Nat.add_zero] at h0 h1
 exact ⟨h0.1,h1.1,h0.2,h1.2⟩
set_option maxHeartbeats 8000000 in
set_option maxRecDepth 100000 in
theorem compactRow (g cap:Nat) (d:Array It) (w:World) (hH:HoldsK itC 2 w g 0 d) (hsz:d.size ≤ 1000000) (hcap:d.size ≤ cap) :
 Calls Tryz.prog 58 #[.slice (some ⟨g,0,none⟩) d.size cap] w fun e w' => e = .returned (.slice (some ⟨g,0,none⟩) (compactUpTo d d.size).length cap) ∧ ∃ q,w' = putRowK itC 2 (Sort.ahead w q) g 0 (compactUpTo d d.size ++ List.replicate (d.size - (compactUpTo d d.size).length) (0,0)).toArray:=by
 have same:∀ q,(∀ j,j < d.size → keeps d j = true) → (compactUpTo d d.size).length = d.size ∧ w.drewN q = putRowK itC 2 (Sort.ahead w q) g 0 (compactUpTo d d.size ++ List.replicate (d.size - (compactUpTo d d.size).length) (0,0)).toArray:=by
  intro q hall
  have e:compactUpTo d d.size = d.toList:=by rw [compactUpTo_all d _ hall,range_map_get]
  rw [e]
  refine ⟨by simp,?_⟩
  simp only [Array.length_toList,Nat.sub_self,List.replicate_zero,List.append_nil,Array.toArray_toList]
  exact (putRowK_self itC 2 (Sort.ahead w q) g 0 d (holdsK_ahead itC 2 w q g 0 d hH)).symm
 have HS:=hid same
 clear same
 have HH:=hid hH
 clear hH
 by_cases h2:d.size < 2
 · go_enter Tryz.func58,Tryz.ntmps58
   go_wp2
   go_ret
   obtain ⟨e1,e2⟩:=HS.out 0 (fun j hj => keeps_lt_one d j (by omega))
   exact ⟨by rw [e1];rfl,0,e2⟩
 · go_enter Tryz.func58,Tryz.ntmps58
   go_wp2
   go_loopg [3] d.size (fun gh s3 wr => ∃ k q:Nat,1 ≤ k ∧ k ≤ d.size ∧ d.size - k ≤ gh ∧ s3 = .int .i64 k ∧ wr = w.drewN q ∧ Hid (∀ j,j < k → keeps d j = true))
   case atStart => exact ⟨1,0,Nat.le_refl _,by omega,by omega,rfl,rfl,hid (keeps_lt_one d)⟩
   case round =>
    obtain ⟨k,q,hk1,hk,hg,rfl,hwr1,A⟩:=hrel
    have hwr:=hid hwr1
    clear hwr1
    by_cases hlt:k < d.size
    · have hHr:HoldsK itC 2 wr g 0 d:=by rw [hwr.out];exact holdsK_ahead itC 2 w q g 0 d HH.out
      obtain ⟨c0,c1,-,-⟩:=holds_it hHr hlt
      obtain ⟨b0,b1,-,-⟩:=holds_it hHr (show k - 1 < d.size by omega)
      clear hHr
      by_cases hdup:d[k]! = d[k - 1]!
      · have B:=hid (keeps_neg (by omega) hdup)
        have hq:∀ w,(binOp .eql 29 (.agg #[.int .i64 d[k]!.1,.int .i64 d[k]!.2]) (.agg #[.int .i64 d[k - 1]!.1,.int .i64 d[k - 1]!.2])).run Tryz.prog w = .ok (.bool true) w:=fun w => by rw [eqlIt];exact congrArg (fun b => Result.ok (Value.bool b) w) (decide_eq_true hdup)
        clear hdup
        generalize d[k]!.1 = x1 at *
        generalize d[k]!.2 = x2 at *
        generalize d[k - 1]!.1 = y1 at *
        generalize d[k - 1]!.2 = y2 at *
        go_wp2_with fail
        go_quiet (fail)
        go_wp2
        clear c0 c1 b0 b1 hq
        obtain ⟨wo,hwo⟩:∃ x,x = wr:=⟨_,rfl⟩
        subst hwo
        go_loopg [3,5] d.size (fun gh s3 s5 wz => ∃ (kk k2 q2:Nat) (dk:Array It),s3 = .int .i64 kk ∧ s5 = .int .i64 k2 ∧ 1 ≤ k2 ∧ k + k2 ≤ d.size ∧ d.size - (k + k2) ≤ gh ∧ Hid (wz = putRowK itC 2 (Sort.ahead w q2) g 0 dk) ∧ Hid (CompInv d (k + k2) kk dk) ∧ kk < k + k2 ∧ dk.size = d.size)
        case atStart => exact ⟨k,1,q + nq,d,rfl,rfl,Nat.le_refl _,by omega,by omega,hid (by rw [hwr.out,World.drewN_drewN];exact (putRowK_self itC 2 (Sort.ahead w (q + nq)) g 0 d (holdsK_ahead itC 2 w (q + nq) g 0 d HH.out)).symm),hid (CompInv.start A.out B.out),by omega,rfl⟩
        case round =>
         obtain ⟨kk,k2,q2,dk,rfl,rfl,h1,hle,hg2,W2,I2,hkk,hds⟩:=hrel
         clear B A hwr
         have hHk:HoldsK itC 2 wr g 0 dk:=by rw [W2.out];exact holdsK_putRowK itC 2 _ g 0 d dk (holdsK_ahead itC 2 w q2 g 0 d HH.out) hds
         by_cases hlt2:k + k2 < d.size
         · obtain ⟨m0,m1,-,-⟩:=holds_it hHk (show k + k2 < dk.size by omega)
           obtain ⟨p0,p1,-,-⟩:=holds_it hHk (show k + k2 - 1 < dk.size by omega)
           obtain ⟨c0,c1,f0,f1⟩:=holds_it hHk (show kk < dk.size by omega)
           have i0:=I2.out.high (k + k2) (by omega)
           have i1:=I2.out.high (k + k2 - 1) (by omega)
           rw [i0,show (k + k2) * 2 = k * 2 + k2 * 2 by omega] at m0 m1
           rw [i1,show (k + k2 - 1) * 2 = k * 2 + (k2 - 1) * 2 by omega] at p0 p1
           clear hHk i0 i1
           by_cases huv:d[k + k2]! = d[k + k2 - 1]!
           · have C:=hid (keeps_neg (by omega) huv)
             have hq:∀ w,(binOp .neq 29 (.agg #[.int .i64 d[k + k2]!.1,.int .i64 d[k + k2]!.2]) (.agg #[.int .i64 d[k + k2 - 1]!.1,.int .i64 d[k + k2 - 1]!.2])).run Tryz.prog w = .ok (.bool false) w:=fun w => by rw [neqIt];exact congrArg (fun b => Result.ok (Value.bool (!b)) w) (decide_eq_true huv)
             clear huv
             generalize d[k + k2]!.1 = x1 at *
             generalize d[k + k2]!.2 = x2 at *
             generalize d[k + k2 - 1]!.1 = y1 at *
             generalize d[k + k2 - 1]!.2 = y2 at *
             go_wp2_with fail
             go_quiet (fail)
             go_wp2
             go_roundg (d.size - (k + (k2 + 1)))
             case measure => omega
             case rel => exact ⟨kk,k2 + 1,q2 + nq,dk,rfl,by go_num,by omega,by omega,Nat.le_refl _,hid (by rw [W2.out,putRowK_drewN]),hid (I2.out.skip C.out),by omega,hds⟩
           · have C:=hid (keeps_pos huv)
             have hq:∀ w,(binOp .neq 29 (.agg #[.int .i64 d[k + k2]!.1,.int .i64 d[k + k2]!.2]) (.agg #[.int .i64 d[k + k2 - 1]!.1,.int .i64 d[k + k2 - 1]!.2])).run Tryz.prog w = .ok (.bool true) w:=fun w => by rw [neqIt];exact congrArg (fun b => Result.ok (Value.bool (!b)) w) (decide_eq_false huv)
             clear huv
             have hst:=hid (fun q' => store_it (w:=w) (q:=q') (g:=g) (i:=kk) (d:=dk) (show kk < dk.size by omega) d[k + k2]!)
             have hI:=hid (I2.out.keep hlt2 C.out)
             generalize d[k + k2]! = x at *
             obtain ⟨x1,x2⟩:=x
             try dsimp only at m0 m1
             generalize d[k + k2 - 1]!.1 = y1 at *
             generalize d[k + k2 - 1]!.2 = y2 at *
             go_wp2_with fail
             go_quiet (fail)
             go_wp2
             go_roundg (d.size - (k + (k2 + 1)))
             case measure => omega
             case rel => exact ⟨kk + 1,k2 + 1,q2 + nq,dk.setIfInBounds kk (x1,x2),by go_num,by go_num,by omega,by omega,Nat.le_refl _,hid (by rw [W2.out,putRowK_drewN];exact hst.out (q2 + nq)),hI,by omega,by rw [Array.size_setIfInBounds];exact hds⟩
         · have hend:k + k2 = d.size:=by omega
           have hcl:∀ ty,(Builtin.clear_ #[36] ty #[.slice (some ⟨g,kk * 2,none⟩) (d.size - kk) (cap - kk)]).run Tryz.prog wr = .ok (.tuple #[]) (wr.setCells g (kk * 2) (List.replicate ((d.size - kk) * 2) (.int .i64 0))):=fun ty =>
            run_clear_it wr ty g (kk * 2) _ _ (by omega) (fun j hj => by have:=hHk (kk * 2 + j) (by rw [size_flatK];omega);rw [Nat.zero_add] at this;rw [this.1];rfl) (fun j hj => by have:=hHk (kk * 2 + j) (by rw [size_flatK];omega);rw [Nat.zero_add] at this;exact this.2)
           clear hHk
           go_wp2
           go_ret
           have hI:=I2.out
           rw [hend] at hI
           have hc9:=clear_laid (w:=w) (q:=q2) (g:=g) (k:=kk) (n:=d.size - kk) (d:=dk) (by omega)
           refine ⟨by rw [hI.len];rfl,q2,?_⟩
           rw [hI.len,← hI.done (0,0),W2.out]
           exact hc9
      · have B:=hid (keeps_pos hdup)
        have hq:∀ w,(binOp .eql 29 (.agg #[.int .i64 d[k]!.1,.int .i64 d[k]!.2]) (.agg #[.int .i64 d[k - 1]!.1,.int .i64 d[k - 1]!.2])).run Tryz.prog w = .ok (.bool false) w:=fun w => by rw [eqlIt];exact congrArg (fun b => Result.ok (Value.bool b) w) (decide_eq_false hdup)
        clear hdup
        generalize d[k]!.1 = x1 at *
        generalize d[k]!.2 = x2 at *
        generalize d[k - 1]!.1 = y1 at *
        generalize d[k - 1]!.2 = y2 at *
        go_wp2_with fail
        go_quiet (fail)
        go_wp2
        go_roundg (d.size - (k + 1))
        case measure => omega
        case rel =>
         refine ⟨k + 1,q + nq,by omega,by omega,Nat.le_refl _,by go_num,by rw [hwr.out,World.drewN_drewN],hid (fun j hj => ?_)⟩
         by_cases e:j = k
         · subst e;exact B.out
         · exact A.out j (by omega)
    · have:k = d.size:=by omega
      subst this
      go_wp2
      go_ret
      obtain ⟨e1,e2⟩:=HS.out q A.out
      exact ⟨by rw [e1];rfl,q,by rw [hwr.out];exact e2⟩
end Go.Proofs.YtbpnioehmohbcaaGreat
