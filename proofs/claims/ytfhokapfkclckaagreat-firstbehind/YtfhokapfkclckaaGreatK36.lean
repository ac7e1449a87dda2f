/- Package first: reachedProds. Package first: reachedProds. Package first: reachedProds. Package first: Behind. -/
import Derived.Test.YtfhokapfkclckaaGreatK21
import Derived.Test.YtfhokapfkclckaaGreatK35
import Derived.Test.YtfhokapfkclckaaGreatK23
import Derived.Test.YtfhokapfkclckaaGreatK24
import Derived.Test.YtfhokapfkclckaaGreatK20
import Derived.Test.YtfhokapfkclckaaGreatK33
import Derived.Deep.LoopGhost
namespace Go.Proofs.YtfhokapfkclckaaGreat
open Go.RowKit Go.Maps Go.Sort
abbrev delV (rb:Nat):Value:=.func (.func 57) #[] #[ptr0 rb]
set_option maxRecDepth 20000 in
set_option maxHeartbeats 8000000 in
theorem delC (rb:Nat) (LV:List Int) (lv rv:Value) (left prec:Int) (w:World) (hr:w.heap[rb]? = some (.cells #[lv] 30)) (hL:Nums w lv LV) (hl:LV.length ≤ 1000) :
 Calls Tryz.prog 57 #[.agg #[.int .i64 left,rv,.int .i64 prec],ptr0 rb] w fun e w' => e = .returned (.bool (!LV.contains left)) ∧ Below w.heap.size w w':=by
 have hal:=al' w (.cells #[.int .i64 left,rv,.int .i64 prec] 43)
 have G:=hid (setsHas lv LV left (w.alloc (.cells #[.int .i64 left,rv,.int .i64 prec] 43)) (by omega) (hL.keep hal))
 have b1:=heap_new w (.cells #[.int .i64 left,rv,.int .i64 prec] 43)
 have c0:=blk_cell (o:=0) (hs_keep hr hal) rfl
 obtain ⟨W,hW⟩:∃ x,w.alloc (.cells #[.int .i64 left,rv,.int .i64 prec] 43) = x:=⟨_,rfl⟩
 rw [hW] at hal G b1 c0
 have c1:=blk_cell (o:=0) b1 rfl
 obtain ⟨la,lc,rfl,-⟩:=id hL
 have hB:=hid hal
 generalize LV.contains left = b at *
 generalize LV.length = ln at *
 clear hr hL hal b1
 go_enter Tryz.func57,Tryz.ntmps57
 go_wp2_with (go_at_call 58;refine G.out.mono ?_;clear G;rintro e w1 ⟨rfl,hw1⟩;subst w1)
 go_ret
 exact ⟨by cases b <;> rfl,hB.out⟩
def IdxP (LV:List Int) (R:List Pd) (i:Int):Prop:=(i = -1 ∧ ∀ j (hj:j < R.length),LV.contains R[j].left = true) ∨ ∃ k:Nat,i = (k:Int) ∧ ∃ hk:k < R.length,LV.contains R[k].left = false ∧ ∀ j (hj:j < R.length),j < k → LV.contains R[j].left = true
set_option maxRecDepth 20000 in
set_option maxHeartbeats 8000000 in
theorem idxProd (rb:Nat) (LV:List Int) (lv v:Value) (R:List Pd) (w:World) (h:Lst 3 ProdAt w v R) (hR:R.length ≤ 1000) (hr:w.heap[rb]? = some (.cells #[lv] 30)) (hL:Nums w lv LV) (hl:LV.length ≤ 1000) :
 Calls Tryz.prog 77 #[v,delV rb] w fun e w' => ∃ i:Int,e = .returned (.int .i64 i) ∧ IdxP LV R i ∧ Below w.heap.size w w':=by
 obtain ⟨ra,rc,rfl⟩:=h.shape
 have hKr:Hid (∀ u,Below w.heap.size w u → ∀ k (hk:k < R.length),∃ b o q1 q2 q3,ra = some ⟨b,o,none⟩ ∧ u.cell? ⟨b,o + k * 3,none⟩ = some (.int .i64 R[k].left) ∧ u.cell? ⟨b,o + k * 3 + 1,none⟩ = some (.slice q1 q2 q3) ∧ u.cell? ⟨b,o + k * 3 + 2,none⟩ = some (.int .i64 R[k].prec) ∧ Calls Tryz.prog 57 #[.agg #[.int .i64 R[k].left,.slice q1 q2 q3,.int .i64 R[k].prec],ptr0 rb] u fun e w' => e = .returned (.bool (!LV.contains R[k].left)) ∧ Below u.heap.size u w'):=hid (fun u hu k hk => by
  obtain ⟨b,o,e,-,v,h0,h1,h2,hN⟩:=(h.keepR hu.size fun _ _ _ _ h => h.keep hu).at hk
  obtain ⟨q1,q3,rfl,-⟩:=id hN
  exact ⟨b,o,q1,_,q3,e,h0,h1,h2,delC rb LV lv _ _ _ u (hs_keep hr hu) (hL.keep hu) hl⟩)
 have hno:Hid ((∀ j (hj:j < R.length),LV.contains R[j].left = true) → IdxP LV R (-1)):=hid (fun h => .inl ⟨rfl,h⟩)
 have hyes:Hid (∀ k (hk:k < R.length),LV.contains R[k].left = false → (∀ j (hj:j < R.length),j < k → LV.contains R[j].left = true) → IdxP LV R (k:Int)):=hid (fun k hk h1 h2 => .inr ⟨k,rfl,hk,h1,h2⟩)
 generalize IdxP LV R = Q at *
 obtain ⟨n,hn⟩:∃ n,Hid (R.length = n):=⟨_,hid rfl⟩
 rw [hn.out] at hR ⊢
 clear h hr hL
 go_enter Tryz.func77,Tryz.ntmps77
 go_wp2
 go_loopw [8] (fun i wr => ∃ k:Nat,k ≤ n ∧ i = .int .i64 (k:Int) ∧ Hid (∀ j (hj:j < R.length),j < k → LV.contains R[j].left = true) ∧ Hid (Below w.heap.size w wr)) (fun i _ => n - (intOf i).toNat)
 case atStart => exact ⟨0,Nat.zero_le _,rfl,hid (fun _ _ h => absurd h (Nat.not_lt_zero _)),hid (Below.refl _ _)⟩
 case round =>
  obtain ⟨k,hk,rfl,hI,hbl⟩:=hrel
  by_cases hlt:k < n
  · have hltz:(k:Int) < (n:Int):=by omega
    have hkl:k < R.length:=by rw [hn.out];exact hlt
    obtain ⟨b,o,q1,q2,q3,rfl,c0,c1,c2,G0⟩:=hKr.out wr hbl.out k hkl
    have G:=hid G0
    have hy:=hid (fun h => hyes.out k hkl h hI.out)
    have hmore:Hid (LV.contains R[k].left = true → ∀ j (hj:j < R.length),j < k + 1 → LV.contains R[j].left = true):=hid (fun h j hj h9 => by
     rcases Nat.lt_or_ge j k with h8 | h8
     · exact hI.out j hj h8
     · obtain rfl:j = k:=by omega
       exact h)
    clear hI hyes hno hKr G0
    generalize LV.contains R[k].left = bb at *
    generalize R[k].left = v1 at *
    generalize R[k].prec = v3 at *
    cases bb with
    | true =>
     have hm9:=hid (hmore.out rfl)
     clear hmore hy
     go_wp2_with (go_at_call 57;refine G.out.mono ?_;clear G;rintro e w4 ⟨rfl,hc4⟩;have hb4:=hid (bl_step hbl.out hc4);clear hc4)
     go_roundw
     case rel => exact ⟨k + 1,by omega,by go_num,hm9,hb4⟩
     case measure => simp [intOf];omega
    | false =>
     have hy9:=hid (hy.out rfl)
     clear hmore hy
     go_wp2_with (go_at_call 57;refine G.out.mono ?_;clear G;rintro e w4 ⟨rfl,hc4⟩;have hb4:=hid (bl_step hbl.out hc4);clear hc4)
     go_ret
     exact ⟨_,rfl,hy9.out,hb4.out⟩
  · have hltz:¬ (k:Int) < (n:Int):=by omega
    have hno9:=hid (hno.out (fun j hj => hI.out j hj (by rw [hn.out] at hj;omega)))
    go_wp2
    go_ret
    exact ⟨_,rfl,hno9.out,hbl.out⟩
structure PdR (W0 w:World) (g cap:Nat) (T:List Pd):Prop where
 low:Below W0.heap.size W0 w
 base:W0.heap.size ≤ g
 row:∃ cur:Array Value,w.heap[g]? = some (.cells cur 43) ∧ cur.size = cap * 3 ∧ T.length ≤ cap ∧ ∀ k (hk:k < T.length),∃ v,cur[k * 3]? = some (.int .i64 T[k].left) ∧ cur[k * 3 + 1]? = some v ∧ cur[k * 3 + 2]? = some (.int .i64 T[k].prec) ∧ Nums W0 v T[k].right
section
variable {W0 w u:World} {g cap:Nat} {T:List Pd}
theorem PdR.keep (h:PdR W0 w g cap T) (hu:Below w.heap.size w u):PdR W0 u g cap T:=by
 obtain ⟨cur,h1,h2⟩:=h.row
 exact ⟨bl_step h.low hu,h.base,cur,hs_keep h1 hu,h2⟩
theorem PdR.at (h:PdR W0 w g cap T) {k:Nat} (hk:k < T.length):∃ v,w.cell? ⟨g,k * 3,none⟩ = some (.int .i64 T[k].left) ∧ w.cell? ⟨g,k * 3 + 1,none⟩ = some v ∧ w.cell? ⟨g,k * 3 + 2,none⟩ = some (.int .i64 T[k].prec) ∧ Nums W0 v T[k].right:=by
 obtain ⟨cur,h1,h2,h3,h4⟩:=h.row
 obtain ⟨v,a,b,c,d⟩:=h4 k hk
 exact ⟨v,blk_cell h1 a,blk_cell h1 b,blk_cell h1 c,d⟩
theorem PdR.lst (h:PdR W0 w g cap T) {m:Nat} (hm:m ≤ T.length):Lst 3 ProdAt w (.slice (some ⟨g,0,none⟩) m cap) (T.take m):=by
 obtain ⟨cur,h1,h2,h3,h4⟩:=h.row
 have hl:(T.take m).length = m:=by rw [List.length_take];omega
 refine ⟨some ⟨g,0,none⟩,cap,by rw [hl],by omega,fun e => (by cases e),fun j hj => ⟨g,0,rfl,blk_lt h1,?_⟩⟩
 have hj':j < T.length:=by omega
 obtain ⟨v,a,b,c,d⟩:=h4 j hj'
 have e:(T.take m)[j] = T[j]:=List.getElem_take ..
 rw [e,Nat.zero_add]
 exact ⟨v,blk_cell h1 a,blk_cell h1 b,blk_cell h1 c,d.keep h.low⟩
theorem PdR.set (h:PdR W0 w g cap T) {i:Nat} (hi:i < T.length) (p:Pd) {v:Value} (hv:Nums W0 v p.right) :
 PdR W0 (((w.setCell ⟨g,i * 3,none⟩ (.int .i64 p.left)).setCell ⟨g,i * 3 + 1,none⟩ v).setCell ⟨g,i * 3 + 2,none⟩ (.int .i64 p.prec)) g cap (T.set i p):=by
 obtain ⟨cur,h1,h2,h3,h4⟩:=h.row
 have hK:Kept (oneBlk g) w (((w.setCell ⟨g,i * 3,none⟩ (.int .i64 p.left)).setCell ⟨g,i * 3 + 1,none⟩ v).setCell ⟨g,i * 3 + 2,none⟩ (.int .i64 p.prec)):=((set_kept (rb:=g)).trans set_kept).trans set_kept
 refine ⟨h.low.trans (hK.below (fun k e => by rw [show k = g from e];exact h.base) h.low.size),h.base,_,heap_setCell (heap_setCell (heap_setCell h1)),by simp [h2],by rw [List.length_set];exact h3,fun k hk => ?_⟩
 have hk':k < T.length:=by simpa using hk
 by_cases e:i = k
 · subst e
   have e1:(T.set i p)[i] = p:=by simp
   rw [e1]
   refine ⟨v,?_,?_,?_,hv⟩
   · rw [Array.getElem?_setIfInBounds_ne (by omega),Array.getElem?_setIfInBounds_ne (by omega),Array.getElem?_setIfInBounds_self_of_lt (by omega)]
   · rw [Array.getElem?_setIfInBounds_ne (by omega),Array.getElem?_setIfInBounds_self_of_lt (by simp;omega)]
   · rw [Array.getElem?_setIfInBounds_self_of_lt (by simp;omega)]
 · have e1:(T.set i p)[k] = T[k]:=by rw [List.getElem_set_ne e]
   rw [e1]
   obtain ⟨v',a,b,c,d⟩:=h4 k hk'
   refine ⟨v',?_,?_,?_,d⟩
   · rw [Array.getElem?_setIfInBounds_ne (by omega),Array.getElem?_setIfInBounds_ne (by omega),Array.getElem?_setIfInBounds_ne (by omega)];exact a
   · rw [Array.getElem?_setIfInBounds_ne (by omega),Array.getElem?_setIfInBounds_ne (by omega),Array.getElem?_setIfInBounds_ne (by omega)];exact b
   · rw [Array.getElem?_setIfInBounds_ne (by omega),Array.getElem?_setIfInBounds_ne (by omega),Array.getElem?_setIfInBounds_ne (by omega)];exact c
end
def zeroPd15:Array Value:=#[.int .i64 0,.slice none 0 0,.int .i64 0]
theorem zeroPd_one (n:Nat):∀ u ∈ (Builtin.zeroCells zeroPd15 n).toList,u.oneCell' = true:=by
 intro u hu
 simp [Builtin.zeroCells,zeroPd15] at hu
 obtain ⟨i,hi,rfl⟩:=hu
 have:i % 3 = 0 ∨ i % 3 = 1 ∨ i % 3 = 2:=by omega
 rcases this with e | e | e <;> simp [e] <;> rfl
theorem zeroPd_length (n:Nat):(Builtin.zeroCells zeroPd15 n).toList.length = n * 3:=by
 simp [Builtin.zeroCells,zeroPd15]
theorem run_clear_rows15 {P:Program} {n:Nat} (w:World) (t e ty:TypeId) (z:Value) (ht:P.underlying t = some (.slice e)) (hv:∀ w,(zeroValue e).run P w = .ok z w) (h1:∀ u ∈ (Builtin.zeroCells z.cells n).toList,u.oneCell' = true) (b o c:Nat) (hn:0 < n)
 (hc:∀ j,j < (Builtin.zeroCells z.cells n).toList.length → (w.cell? ⟨b,o + j,none⟩).isSome = true) (hf:∀ j,j < (Builtin.zeroCells z.cells n).toList.length → w.frozen? ⟨b,o + j,none⟩ = false) :
 (Builtin.clear_ #[t] ty #[.slice (some ⟨b,o,none⟩) n c]).run P w = .ok (.tuple #[]) (w.setCells b o (Builtin.zeroCells z.cells n).toList):=by
 have hst:=run_storeCells_cells (P:=P) b o (Builtin.zeroCells z.cells n).toList 0 w (by simpa using hc) (by simpa using hf) h1
 simp only [Nat.add_zero] at hst
 obtain ⟨m,rfl⟩:∃ m,n = m + 1:=⟨n - 1,by omega⟩
 simp [Builtin.clear_,run_underlying ht,hv,hst]
set_option maxRecDepth 20000 in
theorem PdR.clear {W0 w:World} {g cap:Nat} {T:List Pd} (h:PdR W0 w g cap T) {i:Nat} (hi:i < T.length):∃ u,(∀ ty,(Builtin.clear_ #[25] ty #[.slice (some ⟨g,i * 3,none⟩) (T.length - i) (cap - i)]).run Tryz.prog w = .ok (.tuple #[]) u) ∧ PdR W0 u g cap (T.take i):=by
 obtain ⟨cur,h1,h2,h3,h4⟩:=h.row
 have hzl:=zeroPd_length (T.length - i)
 obtain ⟨cs,g1,z1,l1⟩:=heap_setCells (Builtin.zeroCells zeroPd15 (T.length - i)).toList (i * 3) w cur h1 (by omega)
 refine ⟨_,fun ty => run_clear_rows15 w _ _ ty _ Tryz.underlying25 Tryz.zeroValue43 (zeroPd_one _) g (i * 3) _ (by omega) (fun t ht => ?_) (fun t _ => blk_frozen h1 _),?_⟩
 · have ht':t < (T.length - i) * 3:=by rw [← hzl];exact ht
   rw [blk_cell h1 (Array.getElem?_eq_getElem (show i * 3 + t < cur.size by omega))];rfl
 · have hK:=Kept.setCells (F:=oneBlk g) (w:=w) (b:=g) (fun _ => rfl) (Builtin.zeroCells zeroPd15 (T.length - i)).toList (i * 3) (Kept.refl (oneBlk g) w)
   refine ⟨h.low.trans (hK.below (fun k e => by rw [show k = g from e];exact h.base) h.low.size),h.base,cs,g1,by rw [z1,h2],by rw [List.length_take];omega,fun k hk => ?_⟩
   have hk':k < i:=by rw [List.length_take] at hk;omega
   obtain ⟨v,a,b,c,d⟩:=h4 k (by omega)
   have e:(T.take i)[k] = T[k]:=List.getElem_take ..
   have hlt:∀ t,t < i * 3 → cs[t]? = cur[t]?:=fun t ht => by
    rw [← Array.getElem?_toList,l1,List.append_assoc,List.getElem?_append_left (by rw [List.length_take,Array.length_toList];omega),List.getElem?_take,if_pos ht,Array.getElem?_toList]
   rw [e]
   exact ⟨v,by rw [hlt _ (by omega)];exact a,by rw [hlt _ (by omega)];exact b,by rw [hlt _ (by omega)];exact c,d⟩
end Go.Proofs.YtfhokapfkclckaaGreat
namespace Go.Proofs.YtfhokapfkclckaaGreat
open Go.RowKit Go.Maps Go.Sort
structure DelI (LV:List Int) (T T':List Pd) (i j:Nat):Prop where
 len:T'.length = T.length
 pre:T'.take i = (T.take j).filter fun p => LV.contains p.left
 suf:∀ k,j ≤ k → T'[k]? = T[k]?
 lt:i < j
 le:j ≤ T.length
section
variable {LV:List Int} {T T':List Pd} {i j:Nat}
theorem DelI.start {k:Nat} (hk:k < T.length) (h1:LV.contains T[k].left = false) (h2:∀ j (hj:j < T.length),j < k → LV.contains T[j].left = true):DelI LV T T k (k + 1):=by
 refine ⟨rfl,?_,fun _ _ => rfl,Nat.lt_succ_self k,hk⟩
 rw [List.take_succ_eq_append_getElem hk,List.filter_append]
 have e1:(T.take k).filter (fun p => LV.contains p.left) = T.take k:=by
  rw [List.filter_eq_self]
  intro p hp
  obtain ⟨m,hm,rfl⟩:=List.getElem_of_mem hp
  have hm':m < k:=by rw [List.length_take] at hm;omega
  rw [List.getElem_take]
  exact h2 m (by omega) hm'
 rw [e1,List.filter_cons,h1]
 simp
theorem DelI.skip (h:DelI LV T T' i j) (hj:j < T.length) (hd:LV.contains T[j].left = false):DelI LV T T' i (j + 1):=by
 refine ⟨h.len,?_,fun k hk => h.suf k (by omega),by have:=h.lt;omega,hj⟩
 rw [List.take_succ_eq_append_getElem hj,List.filter_append,h.pre,List.filter_cons,hd]
 simp
theorem DelI.put (h:DelI LV T T' i j) (hj:j < T.length) (hd:LV.contains T[j].left = true):DelI LV T (T'.set i T[j]) (i + 1) (j + 1):=by
 have hl:=h.lt
 have hlen:=h.len
 refine ⟨by rw [List.length_set];exact h.len,?_,fun k hk => ?_,by omega,hj⟩
 · have hi:i < (T'.set i T[j]).length:=by rw [List.length_set];omega
   rw [List.take_succ_eq_append_getElem hi,List.take_set_of_le (Nat.le_refl _),h.pre,List.take_succ_eq_append_getElem hj,List.filter_append,List.filter_cons,hd,List.getElem_set_self]
   simp
 · rw [List.getElem?_set_ne (by omega)]
   exact h.suf k (by omega)
theorem DelI.at (h:DelI LV T T' i j) (hj:j < T.length):∃ hj':j < T'.length,T'[j] = T[j]:=by
 have h1:=h.len
 refine ⟨by omega,?_⟩
 have:=h.suf j (Nat.le_refl _)
 rw [List.getElem?_eq_getElem (by omega),List.getElem?_eq_getElem hj] at this
 exact Option.some.inj this
end
set_option maxRecDepth 20000 in
set_option maxHeartbeats 16000000 in
theorem deleteProd (W0:World) (rb g cap:Nat) (LV:List Int) (lv:Value) (T:List Pd) (w:World) (h:PdR W0 w g cap T) (hT:T.length ≤ 1000) (hcap:cap ≤ maxLen) (hr:W0.heap[rb]? = some (.cells #[lv] 30)) (hL:Nums W0 lv LV) (hl:LV.length ≤ 1000) :
 Calls Tryz.prog 55 #[.slice (some ⟨g,0,none⟩) T.length cap,delV rb] w fun e w' => ∃ v',e = .returned v' ∧ Lst 3 ProdAt w' v' (T.filter fun p => LV.contains p.left) ∧ Below W0.heap.size W0 w':=by
 have hl0:=h.lst (m:=T.length) (Nat.le_refl _)
 rw [List.take_length] at hl0
 obtain ⟨FL,hFL⟩:∃ x,Hid (T.filter (fun p => LV.contains p.left) = x):=⟨_,hid rfl⟩
 rw [hFL.out]
 have GI:=hid (idxProd rb LV lv _ T w hl0 hT (hs_keep hr h.low) (hL.keep h.low) hl)
 have hGD:Hid (∀ u left prec rv,Below W0.heap.size W0 u → Calls Tryz.prog 57 #[.agg #[.int .i64 left,rv,.int .i64 prec],ptr0 rb] u fun e w' => e = .returned (.bool (!LV.contains left)) ∧ Below u.heap.size u w'):=hid (fun u left prec rv hu => delC rb LV lv rv left prec u (hs_keep hr hu) (hL.keep hu) hl)
 have hP:=hid h
 have hcl:=hid (fun (u:World) T' (h:PdR W0 u g cap T') i (hi:i < T'.length) => h.clear hi)
 have hTn:Hid (T.length ≤ cap):=hid (by obtain ⟨cur,-,-,h3,-⟩:=h.row;exact h3)
 clear h hr hL
 obtain ⟨n,hn⟩:∃ n,Hid (T.length = n):=⟨_,hid rfl⟩
 have hnc:n ≤ cap:=by rw [← hn.out];exact hTn.out
 have hmx:cap ≤ 9223372036854775807:=by unfold maxLen at hcap;omega
 rw [hn.out] at hT GI ⊢
 clear hcap hTn
 have hkn:∀ k0:Nat,k0 < T.length → (k0:Int) < (n:Int):=fun k0 h => by have:=hn.out;omega
 go_enter Tryz.func55,Tryz.ntmps55
 go_wp2_with (go_at_call 77;refine GI.out.mono ?_;clear GI;rintro e w1 ⟨i0,rfl,hI,hc1⟩;have hI:=hid hI;have hP1:=hid (hP.out.keep hc1);clear hc1;(rcases hI.out with ⟨e0,hall⟩ | ⟨k0,e0,hk0,hd0,hpre⟩) <;> subst e0;all_goals (try have hk9:=hkn k0 hk0))
 · have hfil:Hid (T.filter (fun p => LV.contains p.left) = T):=hid (by
    rw [List.filter_eq_self]
    intro p hp
    obtain ⟨m,hm,rfl⟩:=List.getElem_of_mem hp
    exact hall m hm)
   have hL9:=hid (hP1.out.lst (m:=T.length) (Nat.le_refl _))
   rw [List.take_length,hn.out] at hL9
   go_ret
   exact ⟨_,rfl,by rw [← hFL.out,hfil.out];exact hL9.out,hP1.out.low⟩
 · have hD0:=hid (DelI.start hk0 hd0 hpre)
   have hk1:((k0:Int) == -1) = false:=by rw [beq_eq_false_iff_ne];omega
   rw [hk1]
   clear hI hP hd0 hpre hl0 hk1
   go_loopw [5,6] (fun iv jv wr => ∃ (i j:Nat) (T':List Pd),iv = .int .i64 (i:Int) ∧ jv = .int .i64 (j:Int) ∧ Hid (DelI LV T T' i j) ∧ Hid (PdR W0 wr g cap T')) (fun _ jv _ => n - (intOf jv).toNat)
   case atStart => exact ⟨k0,k0 + 1,T,rfl,by go_num,hD0,hP1⟩
   case round =>
    clear hD0 hP1 hk0
    obtain ⟨i,j,T',rfl,rfl,hD,hP⟩:=hrel
    have hij:=hD.out.lt
    have hjn:=hD.out.le
    rw [hn.out] at hjn
    by_cases hlt:j < n
    · have hltz:(j:Int) < (n:Int):=by omega
      have hjl:j < T.length:=by rw [hn.out];exact hlt
      obtain ⟨hj',ej⟩:=hD.out.at hjl
      obtain ⟨v,c0,c1,c2,hNv⟩:=hP.out.at hj'
      rw [ej] at c0 c2 hNv
      obtain ⟨va,vc,rfl,-⟩:=id hNv
      have hal:=al' wr (.cells #[.int .i64 T[j].left,.slice va T[j].right.length vc,.int .i64 T[j].prec] 43)
      have b1:=heap_new wr (.cells #[.int .i64 T[j].left,.slice va T[j].right.length vc,.int .i64 T[j].prec] 43)
      obtain ⟨wa,hwa⟩:∃ x,wr.alloc (.cells #[.int .i64 T[j].left,.slice va T[j].right.length vc,.int .i64 T[j].prec] 43) = x:=⟨_,rfl⟩
      rw [hwa] at hal b1
      have hPa:=hP.out.keep hal
      have G:=hid (hGD.out wa T[j].left T[j].prec (.slice va T[j].right.length vc) hPa.low)
      have hskip:=hid (fun h => hD.out.skip hjl h)
      have hput:=hid (fun h => hD.out.put hjl h)
      have hset:=hid (fun (u:World) (h:PdR W0 u g cap T') (hi:i < T'.length) => h.set hi T[j] hNv)
      have hil:i < T'.length:=by rw [hD.out.len,hn.out];omega
      have hbox:=hid (fun u (hu:Below wa.heap.size wa u) => hs_keep b1 hu)
      have x0:=blk_cell (o:=0) b1 rfl
      have x1:=blk_cell (o:=1) b1 rfl
      have x2:=blk_cell (o:=2) b1 rfl
      have hPa:=hid hPa
      clear hD hP hNv hal b1 hGD hcl ej
      generalize LV.contains T[j].left = bb at *
      cases bb with
      | false =>
       have hD9:=hid (hskip.out rfl)
       clear hskip hput hset
       generalize T[j].left = v1 at *
       generalize T[j].prec = v3 at *
       go_wp2_with (go_at_call 57;refine G.out.mono ?_;clear G;rintro e w4 ⟨rfl,hc4⟩;have hP4:=hid (hPa.out.keep hc4);clear hc4)
       go_roundw
       case rel => exact ⟨i,j + 1,T',rfl,by go_num,hD9,hP4⟩
       case measure => simp [intOf];omega
      | true =>
       have hD9:=hid (hput.out rfl)
       clear hskip hput
       have hfix:Hid (∀ u,Below wa.heap.size wa u → ∃ U1 U2 U3,u.setCell ⟨g,i * 3,none⟩ (.int .i64 T[j].left) = U1 ∧ U1.setCell ⟨g,i * 3 + 1,none⟩ (.slice va T[j].right.length vc) = U2 ∧ U2.setCell ⟨g,i * 3 + 2,none⟩ (.int .i64 T[j].prec) = U3 ∧ PdR W0 U3 g cap (T'.set i T[j]) ∧ (∃ y0,u.cell? ⟨g,i * 3,none⟩ = some y0) ∧ u.frozen? ⟨g,i * 3,none⟩ = false ∧ (∃ y1,U1.cell? ⟨g,i * 3 + 1,none⟩ = some y1) ∧ U1.frozen? ⟨g,i * 3 + 1,none⟩ = false ∧ (∃ y2,U2.cell? ⟨g,i * 3 + 2,none⟩ = some y2) ∧ U2.frozen? ⟨g,i * 3 + 2,none⟩ = false):=hid (fun u hu => by
        have hPu:=hPa.out.keep hu
        obtain ⟨cur,h1,h2,h3,h4⟩:=hPu.row
        obtain ⟨y,q0,q1,q2,-⟩:=h4 i hil
        have k1:=heap_setCell (o:=i * 3) (v:=.int .i64 T[j].left) h1
        have k2:=heap_setCell (o:=i * 3 + 1) (v:=.slice va T[j].right.length vc) k1
        refine ⟨_,_,_,rfl,rfl,rfl,hset.out u hPu hil,⟨_,blk_cell h1 q0⟩,blk_frozen h1 _,⟨y,blk_cell k1 ?_⟩,blk_frozen k1 _,⟨.int .i64 T'[i].prec,blk_cell k2 ?_⟩,blk_frozen k2 _⟩
        · rw [Array.getElem?_setIfInBounds_ne (by omega)];exact q1
        · rw [Array.getElem?_setIfInBounds_ne (by omega),Array.getElem?_setIfInBounds_ne (by omega)];exact q2)
       clear hset hPa
       obtain ⟨T2,hT2⟩:∃ x,Hid (T'.set i T[j] = x):=⟨_,hid rfl⟩
       rw [hT2.out] at hD9 hfix
       generalize T[j].left = v1 at *
       generalize T[j].prec = v3 at *
       generalize T[j].right.length = v2 at *
       have hin:(i:Int) < (n:Int):=by omega
       go_wp2_with (go_at_call 57;refine G.out.mono ?_;clear G;rintro e w4 ⟨rfl,hc4⟩
                    obtain ⟨U1,U2,U3,u1,u2,u3,hP9,⟨y0,f0⟩,f1,⟨y1,f2⟩,f3,⟨y2,f4⟩,f5⟩:=hfix.out w4 hc4
                    have b4:=hbox.out w4 hc4
                    have z0:=blk_cell (o:=0) b4 rfl
                    have z1:=blk_cell (o:=1) b4 rfl
                    have z2:=blk_cell (o:=2) b4 rfl
                    have hP9:=hid hP9
                    clear hc4 b4)
       go_roundw
       case rel => exact ⟨i + 1,j + 1,T2,by go_num,by go_num,hD9,hP9⟩
       case measure => simp [intOf];omega
    · have hltz:¬ (j:Int) < (n:Int):=by omega
      obtain rfl:j = n:=by omega
      have hil:i < T'.length:=by rw [hD.out.len,hn.out];omega
      obtain ⟨u,hrun,hPu⟩:=hcl.out wr T' hP.out i hil
      have hpre:=hD.out.pre
      rw [← hn.out,List.take_length] at hpre
      have hli:(T'.take i).length = i:=by rw [List.length_take];omega
      have hL9:=hPu.lst (m:=i) (by omega)
      rw [show (T'.take i).take i = T'.take i by rw [List.take_take,Nat.min_self],hpre,hFL.out] at hL9
      have hL9:=hid hL9
      have hlow:=hid hPu.low
      have hT'n:T'.length = j:=by rw [hD.out.len,hn.out]
      rw [hT'n] at hrun
      have hic:i ≤ cap:=by omega
      have hicz:(i:Int) ≤ (cap:Int):=by omega
      have hne:¬ cap = i:=by omega
      have hijz:(i:Int) ≤ (j:Int):=by omega
      clear hPu hpre hli hD hP hcl hT'n
      go_wp2
      go_ret
      exact ⟨_,rfl,hL9.out,hlow.out⟩
end Go.Proofs.YtfhokapfkclckaaGreat
namespace Go.Proofs.YtfhokapfkclckaaGreat
open Go.RowKit Go.Maps Go.Sort
set_option maxRecDepth 20000 in
set_option maxHeartbeats 8000000 in
theorem cloneC15 (v:Value) (R:List Pd) (w:World) (h:Lst 3 ProdAt w v R) (hR:R.length ≤ 1000) :
 Calls Tryz.prog 56 #[v] w fun e w' => ∃ v',e = .returned v' ∧ ((v' = .slice none 0 0 ∧ R = []) ∨ ∃ g cap,v' = .slice (some ⟨g,0,none⟩) R.length cap ∧ cap ≤ maxLen ∧ PdR w w' g cap R) ∧ Below w.heap.size w w':=by
 obtain ⟨i0,hi,hz0,hz1,hz2⟩:=info_parts Tryz.infPd
 obtain ⟨f,hRw,hNf⟩:=prods_rw h
 obtain ⟨v',u,hrun,hO,hb⟩:=run_appG (tS:=25) (ty:=25) (u:=w) Tryz.underlying25 hi hz0 hz1 hz2 rfl (by decide) hRw (by omega) (by omega)
 have hres:Hid ((v' = .slice none 0 0 ∧ R = []) ∨ ∃ g cap,v' = .slice (some ⟨g,0,none⟩) R.length cap ∧ cap ≤ maxLen ∧ PdR w u g cap R):=hid (by
  rcases hO.2 with ⟨rfl,h0⟩ | ⟨g,cap,cur,rfl,h1,h2,h3,h4,h5,h6⟩
  · exact .inl ⟨rfl,List.eq_nil_of_length_eq_zero h0⟩
  · refine .inr ⟨g,cap,rfl,h4,hb,h1,cur,h2,h5,h3,fun k hk => ?_⟩
    obtain ⟨y0,y1,y2⟩:=rw3_at (pP R) f (qP R) R.length k hk
    have hat:∀ t,t < R.length * 3 → cur[t]? = (rw3 R.length (pP R) f (qP R))[t]?:=fun t ht => by
     rw [← h6,List.getElem?_take,if_pos ht,Array.getElem?_toList]
    have hN:=hNf k hk
    rw [getD_at hk] at hN
    refine ⟨f k,?_,?_,?_,hN⟩
    · rw [hat _ (by omega),y0];unfold pP;rw [getD_at hk]
    · rw [hat _ (by omega),y1]
    · rw [hat _ (by omega),y2];unfold qP;rw [getD_at hk])
 have hb:=hid hb
 obtain ⟨a,cap,rfl,hc,hn,hat⟩:=h
 cases a with
 | none =>
  obtain rfl:=hn rfl
  have h0:R.length = 0:=by omega
  have hR0:Hid (R = []):=hid (List.eq_nil_of_length_eq_zero h0)
  rw [h0] at hrun ⊢
  clear hat hRw hNf hO hres hc hn hrun h0
  have he:∀ w:World,(binOp .eql 25 (.slice none 0 0) (.slice none 0 0)).run Tryz.prog w = .ok (.bool true) w:=fun _ => rfl
  go_enter Tryz.func56,Tryz.ntmps56
  go_wp2
  go_ret
  exact ⟨_,rfl,.inl ⟨rfl,hR0.out⟩,Below.refl _ _⟩
 | some ad =>
  clear hat hRw hNf hO hn
  generalize R.length = n at *
  have he:∀ w:World,(binOp .eql 25 (.slice (some ad) n cap) (.slice none 0 0)).run Tryz.prog w = .ok (.bool false) w:=fun _ => rfl
  go_enter Tryz.func56,Tryz.ntmps56
  go_wp2_with (at_builtin;refine wp_run _ rfl _ _ _ rfl _ _ rfl rfl hrun ?_;clear hrun)
  go_ret
  exact ⟨_,rfl,hres.out,hb.out⟩
set_option maxRecDepth 20000 in
set_option maxHeartbeats 8000000 in
theorem deleteNil15 (rb:Nat) (LV:List Int) (lv:Value) (w:World) (hr:w.heap[rb]? = some (.cells #[lv] 30)) (hL:Nums w lv LV) (hl:LV.length ≤ 1000) :
 Calls Tryz.prog 55 #[.slice none 0 0,delV rb] w fun e w' => ∃ v',e = .returned v' ∧ Lst 3 ProdAt w' v' [] ∧ Below w.heap.size w w':=by
 have G0:Calls Tryz.prog 77 #[.slice none 0 0,delV rb] w fun e w' => e = .returned (.int .i64 (-1)) ∧ Below w.heap.size w w':=(idxProd rb LV lv (.slice none 0 0) [] w (Lst.nil _) (by decide) hr hL hl).mono fun e w' ⟨i,he,hI,hb⟩ => by
  rcases hI with ⟨e0,-⟩ | ⟨k0,e0,hk0,-⟩
  · subst e0
    exact ⟨he,hb⟩
  · exact absurd hk0 (Nat.not_lt_zero _)
 have G:=hid G0
 clear hr hL G0
 go_enter Tryz.func55,Tryz.ntmps55
 go_wp2_with (go_at_call 77;refine G.out.mono ?_;clear G;rintro e w1 ⟨rfl,hc1⟩;have hc1:=hid hc1)
 go_ret
 exact ⟨_,rfl,Lst.nil _,hc1.out⟩
set_option maxRecDepth 20000 in
set_option maxHeartbeats 8000000 in
theorem reachC (g:Gm) (hg:SndG g) (rv nv lv pv:Value) (w:World) (hV:GmV w rv nv lv pv g) (hb:BndG g) (hnl:∀ t ∈ g.allN,t.length ≤ 1000000) :
 Calls Tryz.prog 36 #[gmA rv nv lv pv g.start] w fun e w' => ∃ v,e = .returned v ∧ Lst 3 ProdAt w' v (rpL g) ∧ Below w.heap.size w w':=by
 obtain ⟨pa,pc,rfl⟩:=hV.prods.shape
 have hB1:=al' w (.cells #[rv,nv,lv,.slice pa g.prods.length pc,.int .i64 g.start] 27)
 have k1:=heap_new w (.cells #[rv,nv,lv,.slice pa g.prods.length pc,.int .i64 g.start] 27)
 obtain ⟨W,hW⟩:∃ x,w.alloc (.cells #[rv,nv,lv,.slice pa g.prods.length pc,.int .i64 g.start] 27) = x:=⟨_,rfl⟩
 rw [hW] at hB1 k1
 have hk1:=hid (fun u (hu:Below W.heap.size W u) => cells5m (hs_keep k1 hu))
 have hB:=hid hB1
 have hp:=hg.prods
 have hLl:(livL g).length ≤ 1000:=by
  unfold livL
  have h1:∀ n ∈ ofL (rcN g (g.nonts.length + 1)),(0:Int) < n ∧ n ≤ 0 + ((g.all:Nat):Int):=fun n hn => by
   rw [ofL_mem,rcN_all hg] at hn
   have:=hn.range hg
   omega
  have h2:=nodup_le g.all _ 0 ((ofL_up (rcN g (g.nonts.length + 1))).imp (fun h => by omega)) h1
  have:=all_le hg
  omega
 have eA:rchA g = livL g:=by unfold rchA livL;exact @if_pos _ (Classical.propDecidable _) hg _ _ _
 have GR:=reachedP g rv nv lv (.slice pa g.prods.length pc) W (hV.keep hB1) hb hnl
 rw [eA] at GR
 have GR:=hid GR
 have GC:=hid (fun u (hu:Below W.heap.size W u) => cloneC15 (.slice pa g.prods.length pc) g.prods u (hV.keep (bl_step hB1 hu)).prods (by omega))
 have GD:=hid (fun (u:World) rb lv g9 cap (w':World) (h:PdR u w' g9 cap g.prods) (h2:cap ≤ maxLen) (h3:u.heap[rb]? = some (.cells #[lv] 30)) (h4:Nums u lv (livL g)) => deleteProd u rb g9 cap (livL g) lv g.prods w' h (by omega) h2 h3 h4 hLl)
 have hnil:=hid (fun (w':World) rb (lv:Value) (h3:w'.heap[rb]? = some (.cells #[lv] 30)) (h4:Nums w' lv (livL g)) => deleteNil15 rb (livL g) lv w' h3 h4 hLl)
 have hrp:Hid (rpL g = g.prods.filter fun p => (livL g).contains p.left):=hid rfl
 rw [hrp.out]
 obtain ⟨x0,x1,x2,x3,x4⟩:=hk1.out W (Below.refl _ _)
 clear hV hB1 k1 hb hnl hg hLl eA hrp
 obtain ⟨LV,hLV⟩:∃ n,Hid (livL g = n):=⟨_,hid rfl⟩
 rw [hLV.out] at GR GD hnil ⊢
 obtain ⟨RP,hRP⟩:∃ n,Hid ((g.prods.filter fun p => LV.contains p.left) = n):=⟨_,hid rfl⟩
 rw [hRP.out] at GD ⊢
 obtain ⟨PR,hPR⟩:∃ n,Hid (g.prods = n):=⟨_,hid rfl⟩
 rw [hPR.out] at GC GD hW hk1 x3 hp hRP GR ⊢
 obtain ⟨pn,hpn⟩:∃ n,Hid (PR.length = n):=⟨_,hid rfl⟩
 rw [hpn.out] at GC GD hW hk1 x3 hp GR ⊢
 generalize g.start = st at *
 go_enter Tryz.func36,Tryz.ntmps36
 go_wp2_with (go_at_call 54;refine GR.out.mono ?_;clear GR;rintro e w1 ⟨v1,rfl,hN1,hc1⟩
              obtain ⟨va,vc,rfl,-⟩:=id hN1
              have ha1:=al' w1 (.cells #[.slice va LV.length vc] 30)
              have hb1:=heap_new w1 (.cells #[.slice va LV.length vc] 30)
              have hN2:=hN1.keep ha1
              obtain ⟨W2,hW2⟩:∃ x,w1.alloc (.cells #[.slice va LV.length vc] 30) = x:=⟨_,rfl⟩
              rw [hW2] at ha1 hb1 hN2
              have h2:=hid (bl_step hc1 ha1)
              have hN2:=hid hN2
              have hb1:=hid hb1
              obtain ⟨y0,y1,y2,y3,y4⟩:=hk1.out W2 h2.out
              have G2:=hid (GC.out W2 h2.out)
              clear GC hc1 ha1 hN1 x0 x1 x2 x3 x4)
 have GX:Hid (∀ v3 w3,Below W2.heap.size W2 w3 → ((v3 = .slice none 0 0 ∧ PR = []) ∨ ∃ g cap,v3 = .slice (some ⟨g,0,none⟩) pn cap ∧ cap ≤ maxLen ∧ PdR W2 w3 g cap PR) → Calls Tryz.prog 55 #[v3,delV w1.heap.size] w3 fun e w' => ∃ v',e = .returned v' ∧ Lst 3 ProdAt w' v' RP ∧ Below W2.heap.size W2 w'):=hid (fun v3 w3 hb3 h3 => by
  rcases h3 with ⟨rfl,e⟩ | ⟨g9,cap,rfl,hcap,hP⟩
  · have hRP0:RP = []:=by rw [← hRP.out,e];rfl
    rw [hRP0]
    exact (hnil.out w3 w1.heap.size _ (hs_keep hb1.out hb3) (hN2.out.keep hb3)).mono fun e w' ⟨v',a,b,c⟩ => ⟨v',a,b,bl_step hb3 c⟩
  · exact GD.out W2 w1.heap.size _ g9 cap w3 hP hcap hb1.out hN2.out)
 clear GD hnil hb1 hN2
 go_wp2_with (first
  | (go_at_call 56;refine G2.out.mono ?_;clear G2;rintro e w3 ⟨v3,rfl,hv3,hc3⟩;have h3:=hid hc3;have hv3:=hid hv3;clear hc3)
  | (go_at_call 55;refine (GX.out v3 w3 h3.out hv3.out).mono ?_;clear GX;rintro e w4 ⟨v4,rfl,hL4,hc4⟩;have hL4:=hid hL4;have hc4:=hid hc4))
 go_ret
 exact ⟨_,rfl,hL4.out,bl_step hB.out (bl_step h2.out hc4.out)⟩
set_option maxRecDepth 20000 in
set_option maxHeartbeats 16000000 in
theorem behindP (g:Gm) (hg:SndG g) (rv nv lv pv:Value) (w:World) (hV:GmV w rv nv lv pv g) (hb:BndG g) (hnl:∀ t ∈ g.allN,t.length ≤ 1000000) :
 Calls Tryz.prog 17 #[gmA rv nv lv pv g.start] w fun e w' => ∃ hb,e = .returned (.slice (some ⟨hb,0,none⟩) (g.all + 1) (g.all + 1)) ∧ RowsL w' hb (behL g) ∧ Below w.heap.size w w':=by
 have hal:=all_le hg
 have hB1:=al' w (.cells #[rv,nv,lv,pv,.int .i64 g.start] 27)
 have k1:=heap_new w (.cells #[rv,nv,lv,pv,.int .i64 g.start] 27)
 have z1:(w.alloc (.cells #[rv,nv,lv,pv,.int .i64 g.start] 27)).heap.size = w.heap.size + 1:=World.size_alloc ..
 obtain ⟨W,hW⟩:∃ x,w.alloc (.cells #[rv,nv,lv,pv,.int .i64 g.start] 27) = x:=⟨_,rfl⟩
 rw [hW] at hB1 k1 z1
 have hk1:=hid (fun u (hu:Below W.heap.size W u) => cells5m (hs_keep k1 hu))
 have hB:=hid hB1
 have hW9:=hid z1
 have G0:=hid (soundP g _ _ _ _ W (hV.keep hB1) hb hnl)
 rw [soundB_yes hg] at G0
 have GK:=hid (fun u (hu:Below W.heap.size W u) => knowC g hg rv nv lv pv u (hV.keep (bl_step hB1 hu)))
 have GR:=hid (fun u (hu:Below W.heap.size W u) => reachC g hg rv nv lv pv u (hV.keep (bl_step hB1 hu)) hb hnl)
 have hst:=start_in hg
 obtain ⟨N,hN9⟩:∃ n,Hid (g.all + 1 = n):=⟨_,hid rfl⟩
 rw [hN9.out] at GK ⊢
 have hN:N ≤ 101:=by have:=hN9.out;omega
 have hN0:0 < N:=by have:=hN9.out;omega
 have hmk:=run_make_row' (P:=Tryz.prog) 36 30 (.slice none 0 0) 24 Tryz.underlying36 infoIs rfl .i64 .i64 N (by omega) (by omega)
 have hsz1:Hid (w.heap.size < W.heap.size):=hid (blk_lt k1)
 have hinis:hini g = if 0 < g.start then (List.replicate N []).set g.start.toNat [0] else List.replicate N []:=by unfold hini;rw [hN9.out]
 have hstN:g.start.toNat < N:=by have:=hN9.out;omega
 -- behind know: the struct's box,the made block,the start's end
 have hmain:Hid (∀ w2 vb bb B,Below W.heap.size W w2 → KnV w2 vb bb N (nulL g) B → ∀ W4,(w2.alloc (.cells #[.slice (some ⟨vb,0,none⟩) N N,.slice (some ⟨bb,0,none⟩) N N] 60)).alloc (.cells (madeCells #[.slice none 0 0] N) 30) = W4 → ∃ V,
  (0 < g.start → (W4.alloc (.cells #[.int .i64 0] 3)).setCell ⟨w2.heap.size + 1,g.start.toNat,none⟩ (.slice (some ⟨W4.heap.size,0,none⟩) 1 1) = V) ∧ (¬ 0 < g.start → V = W4) ∧
  RowsL V (w2.heap.size + 1) (hini g) ∧ w2.heap.size + 1 ≠ vb ∧ w2.heap.size + 1 ≠ bb ∧ W.heap.size ≤ w2.heap.size + 1 ∧ Below W.heap.size W W4 ∧ Below W.heap.size W V ∧ KnV V vb bb N (nulL g) B ∧ V.heap[w2.heap.size]? = some (.cells #[.slice (some ⟨vb,0,none⟩) N N,.slice (some ⟨bb,0,none⟩) N N] 60) ∧ (∃ y,(W4.alloc (.cells #[.int .i64 0] 3)).cell? ⟨w2.heap.size + 1,g.start.toNat,none⟩ = some y) ∧ (W4.alloc (.cells #[.int .i64 0] 3)).frozen? ⟨w2.heap.size + 1,g.start.toNat,none⟩ = false):=hid (fun w2 vb bb B h2 hK W4 e4 => by
  have a1:=al' w2 (.cells #[.slice (some ⟨vb,0,none⟩) N N,.slice (some ⟨bb,0,none⟩) N N] 60)
  have y1:(w2.alloc (.cells #[.slice (some ⟨vb,0,none⟩) N N,.slice (some ⟨bb,0,none⟩) N N] 60)).heap.size = w2.heap.size + 1:=World.size_alloc ..
  have b1:=heap_new w2 (.cells #[.slice (some ⟨vb,0,none⟩) N N,.slice (some ⟨bb,0,none⟩) N N] 60)
  have a2:=al' (w2.alloc (.cells #[.slice (some ⟨vb,0,none⟩) N N,.slice (some ⟨bb,0,none⟩) N N] 60)) (.cells (madeCells #[.slice none 0 0] N) 30)
  have hR:=made_slices (w2.alloc (.cells #[.slice (some ⟨vb,0,none⟩) N N,.slice (some ⟨bb,0,none⟩) N N] 60)) N
  rw [y1] at hR
  have q1:=hs_keep b1 a2
  have hK4:=(hK.keep a1).keep a2
  have hB4:=bl_step (bl_step h2 a1) a2
  rw [e4] at hR q1 hK4 hB4
  have l1:=hK.van.lt
  have l2:=hK.beg.lt
  have l3:=h2.size
  have a3:=al' W4 (.cells #[.int .i64 0] 3)
  have hRa:=hR.keep a3
  obtain ⟨y,ry,-,-⟩:=hRa.at (s:=g.start) (by rw [List.length_replicate];exact hstN)
  have hfz:=hRa.free g.start.toNat
  by_cases hs:0 < g.start
  · have hK9:Kept (oneBlk (w2.heap.size + 1)) (W4.alloc (.cells #[.int .i64 0] 3)) ((W4.alloc (.cells #[.int .i64 0] 3)).setCell ⟨w2.heap.size + 1,g.start.toNat,none⟩ (.slice (some ⟨W4.heap.size,0,none⟩) 1 1)):=set_kept
    refine ⟨_,fun _ => rfl,fun h => absurd hs h,?_,by omega,by omega,by omega,hB4,(bl_step hB4 a3).trans (hK9.below (fun k e => by rw [show k = w2.heap.size + 1 from e];omega) (bl_step hB4 a3).size),(hK4.keep a3).kept hRa hK9 (by omega) (by omega),hK9.blk (hs_keep q1 a3) (fun e => by have:w2.heap.size = w2.heap.size + 1:=e;omega),⟨y,ry⟩,hfz⟩
    rw [hinis,if_pos hs]
    exact hRa.put g.start.toNat (Nums.of_row (Own.lit1 W4 0)) (by simp)
  · refine ⟨W4,fun h => absurd h hs,fun _ => rfl,?_,by omega,by omega,by omega,hB4,hB4,hK4,q1,⟨y,ry⟩,hfz⟩
    rw [hinis,if_neg hs]
    exact hR)
 have hpd:Hid (∀ i (hi:i < (rpL g).length),0 ≤ (rpL g)[i].left ∧ (rpL g)[i].left.toNat < N ∧ (rpL g)[i].right.length ≤ 8 ∧ ∀ s ∈ (rpL g)[i].right,0 ≤ s ∧ s.toNat < N):=hid (fun i hi => by
  have hm:=(rpL_mem.1 (List.getElem_mem hi)).1
  have h1:=left_sym hg hm
  have h2:=right_sym hg hm
  have:=hg.prod _ hm
  unfold pdB at this
  simp only [Bool.and_eq_true,decide_eq_true_eq,List.all_eq_true] at this
  have h9:=hN9.out
  refine ⟨by omega,by omega,this.1.1.1.2,fun s hs => ?_⟩
  have:=h2 s hs
  omega)
 have hnx:=hid (fun B (hB:Knw g B) H0 H i b (h:KbL g B H0 H i b) (hi:i < (rpL g).length) => h.next hg hB hi)
 have hsp:=hid (fun B (hB:Knw g B) H0 H i (h0:KbI g H0) (h:KbL g B H0 H i false) (hi:(rpL g).length ≤ i) => h.stop hg hB h0 hi)
 have hI0:Hid (KbI g (hini g)):=hid (KbI.ini hg)
 have htot:=hid (fun H (h:KbI g H) => h.tot hg)
 have hspi:=hid (fun H (h:KbI g H) left => h.spi hg left)
 rw [hN9.out] at hspi
 have hbeg:=hid (fun B (h:Knw g B) => h.beg hg)
 have hrn:(rpL g).length ≤ 40:=Nat.le_trans (rpL_len g) hg.prods
 have hst0:=hst.2
 clear hinis
 clear hV hB1 k1 hb hnl hg z1 hst
 obtain ⟨NL,hNL⟩:∃ n,Hid (nulL g = n):=⟨_,hid rfl⟩
 rw [hNL.out] at GK hmain hnx
 obtain ⟨RP,hRP⟩:∃ n,Hid (rpL g = n):=⟨_,hid rfl⟩
 rw [hRP.out] at GR hrn
 have hpd:Hid (∀ i (hi:i < RP.length),0 ≤ RP[i].left ∧ RP[i].left.toNat < N ∧ RP[i].right.length ≤ 8 ∧ ∀ s ∈ RP[i].right,0 ≤ s ∧ s.toNat < N):=hid (by rw [← hRP.out];exact hpd.out)
 have hnx:Hid (∀ B (hB:Knw g B) H0 H i b (h:KbL g B H0 H i b) (hi:i < RP.length),KbL g B H0 (spr NL B (atB H RP[i].left) RP[i].right H) (i + 1) (decide (totB H < totB (spr NL B (atB H RP[i].left) RP[i].right H)) || b)):=hid (by rw [← hRP.out];exact hnx.out)
 have hsp:Hid (∀ B (hB:Knw g B) H0 H i (h0:KbI g H0) (h:KbL g B H0 H i false) (hi:RP.length ≤ i),H = behL g):=hid (by rw [← hRP.out];exact hsp.out)
 obtain ⟨BH,hBH⟩:∃ n,Hid (behL g = n):=⟨_,hid rfl⟩
 rw [hBH.out] at hsp ⊢
 obtain ⟨pn,hpn⟩:∃ n,Hid (RP.length = n):=⟨_,hid rfl⟩
 rw [hpn.out] at hrn
 obtain ⟨st,hst⟩:∃ n,Hid (g.start = n):=⟨_,hid rfl⟩
 rw [hst.out] at G0 GK GR hW hk1 hmain hstN hst0 ⊢
 obtain ⟨x0,x1,x2,x3,x4⟩:=hk1.out W (Below.refl _ _)
 by_cases hs:0 < st
 all_goals
  go_enter Tryz.func17,Tryz.ntmps17
  go_wp2_with (first
   | (go_at_call 23;refine G0.out.mono ?_;clear G0;rintro e w1 ⟨rfl,hc1⟩;have h1:=hid hc1;clear hc1 x0 x1 x2 x3 x4;obtain ⟨y0,y1,y2,y3,y4⟩:=hk1.out w1 h1.out)
   | (go_at_call 33;refine (GK.out w1 h1.out).mono ?_;clear GK;rintro e w2 ⟨vb,bb,B,rfl,hK2,hW2,-,-,hc2⟩
      obtain ⟨W4,hW4⟩:∃ x,(w2.alloc (.cells #[.slice (some ⟨vb,0,none⟩) N N,.slice (some ⟨bb,0,none⟩) N N] 60)).alloc (.cells (madeCells #[.slice none 0 0] N) 30) = x:=⟨_,rfl⟩
      obtain ⟨V,hVy,hVn,hR4,hn1,hn2,hlo4,hB4,hBV,hK4,hq4,⟨y9,hy9⟩,hf9⟩:=hmain.out w2 vb bb B (bl_step h1.out hc2) hK2 W4 hW4
      have hW2:=hid hW2;have hR4:=hid hR4;have hB4:=hid hB4;have hBV:=hid hBV;have hK4:=hid hK4;have hq4:=hid hq4;have hn1:=hid hn1;have hn2:=hid hn2;have hlo4:=hid hlo4
      have hb9:=blk_cell (o:=1) (heap_new w2 (.cells #[.slice (some ⟨vb,0,none⟩) N N,.slice (some ⟨bb,0,none⟩) N N] 60)) rfl
      obtain ⟨z0,z1,z2,z3,z4⟩:=hk1.out W4 hB4.out
      have z4a:=keep_cell (al' W4 (.cells #[.int .i64 0] 3)) z4
      obtain ⟨v0,v1,v2,v3,v4⟩:=hk1.out V hBV.out
      have G9:=hid (GR.out V hBV.out)
      clear hc2 hK2 hmain y0 y1 y2 y3 y4 GR
      (first | (have hVe:=hVy hs) | (have hVe:W4 = V:=(hVn hs).symm;subst hVe))
      clear hVy hVn)
   | (go_at_call 36;refine G9.out.mono ?_;clear G9;rintro e w6 ⟨v6,rfl,hP6,hc6⟩;obtain ⟨pa,pc,e6⟩:=hP6.shape;subst e6;have hP6:=hid hP6;have hc6:=hid hc6))
 all_goals
  have hLen:Hid ((hini g).length = N):=hid (by rw [hI0.out.len,hN9.out])
  have hR6:=hid (hR4.out.keep hc6.out)
  have hAt:Hid (∀ u,Kept (oneBlk (w2.heap.size + 1)) w6 u → u.heap[w2.heap.size]? = some (.cells #[.slice (some ⟨vb,0,none⟩) N N,.slice (some ⟨bb,0,none⟩) N N] 60) ∧ KnV u vb bb N NL B ∧ Lst 3 ProdAt u (.slice pa RP.length pc) RP ∧ Below w.heap.size w u):=hid (fun u hu => by
   have h6:=bl_step hBV.out hc6.out
   exact ⟨hu.blk (hs_keep hq4.out hc6.out) (fun e => by have:w2.heap.size = w2.heap.size + 1:=e;omega),(hK4.out.keep hc6.out).kept hR6.out hu hn1.out hn2.out,prods_kept hP6.out hR6.out hu,bl_step hB.out (h6.trans (hu.below (fun k e => by rw [show k = w2.heap.size + 1 from e];exact hlo4.out) h6.size))⟩)
  have hBg:=hid (hbeg.out B hW2.out)
  have hI9:=hI0
  clear hR4 hB4 hBV hK4 hq4 hP6 hc6 hlo4 hbeg
  rw [hpn.out] at hAt ⊢
  generalize w2.heap.size + 1 = hb at *
  go_loopg [6] 1800 (fun gk mo wr => ∃ (b:Bool) (H:List (List Int)),mo = .bool b ∧ Hid (RowsL wr hb H) ∧ Hid (KbI g H) ∧ Hid (b = false → H = BH) ∧ Hid (Kept (oneBlk hb) w6 wr) ∧ Hid ((1750 - totB H) + (if b then 1 else 0) ≤ gk))
  case atStart => exact ⟨true,hini g,rfl,hR6,hI9,hid (fun e => by cases e),hid (Kept.refl _ _),hid (by simp;omega)⟩
  case round =>
   clear hI9
   obtain ⟨b,H0,rfl,hR,hI,hd,hK,hgk⟩:=hrel
   obtain ⟨l1,l2,l3,l4⟩:=hAt.out wr hK.out
   cases b with
   | false =>
    obtain rfl:=hd.out rfl
    have hlw:=hid l4
    clear hd l1 l2 l3 l4 hI hgk
    go_wp2
    go_ret
    exact ⟨hb,rfl,hR.out,hlw.out⟩
   | true =>
    have hE0:=hid (KbL.start (B:=B) hI.out)
    have hg1:Hid (1750 - totB H0 + 1 ≤ gk):=hid (by simpa using hgk.out)
    have hI1:=hid hI.out
    clear hd hI l1 l2 l3 l4 hgk
    go_wp2_with fail
    go_loopw [6,31] (fun mo x wr => ∃ (b:Bool) (H:List (List Int)) (i:Nat),i ≤ pn ∧ mo = .bool b ∧ x = .int .i64 (i:Int) ∧ Hid (RowsL wr hb H) ∧ Hid (KbL g B H0 H i b) ∧ Hid (Kept (oneBlk hb) w6 wr)) (fun _ x _ => pn - (intOf x).toNat)
    case atStart => exact ⟨false,H0,0,Nat.zero_le _,rfl,rfl,hR,hE0,hK⟩
    case round =>
     clear hR hE0 hK
     obtain ⟨b,H,i,hi,rfl,rfl,hR,hE,hK⟩:=hrel
     by_cases hlt:i < pn
     · have hltz:(i:Int) < (pn:Int):=by omega
       have hil:i < RP.length:=by rw [hpn.out];exact hlt
       obtain ⟨l1,l2,l3,-⟩:=hAt.out wr hK.out
       obtain ⟨pb,po,e9,-,q1,d0,d1,d2,hN1⟩:=l3.at hil
       subst e9
       obtain ⟨q2,q3,rfl,-⟩:=id hN1
       obtain ⟨hp1,hp2,hp3,hp4⟩:=hpd.out i hil
       have hal9:=al' wr (.cells #[.int .i64 RP[i].left,.slice q2 RP[i].right.length q3,.int .i64 RP[i].prec] 43)
       have e0:=heap_new wr (.cells #[.int .i64 RP[i].left,.slice q2 RP[i].right.length q3,.int .i64 RP[i].prec] 43)
       obtain ⟨wa,hwa⟩:∃ x,wr.alloc (.cells #[.int .i64 RP[i].left,.slice q2 RP[i].right.length q3,.int .i64 RP[i].prec] 43) = x:=⟨_,rfl⟩
       rw [hwa] at hal9 e0
       have GS:=hid (spreadC vb bb hb N NL B H RP[i].left RP[i].prec _ RP[i].right wa (l2.keep hal9) (hR.out.keep hal9) hn1.out hn2.out (hspi.out H hE.out.inv RP[i].left) hBg.out hp1 hp2 hN0 (by omega) (hN1.keep hal9) hp4 (by omega))
       have hnext:=hid (hnx.out B hW2.out H0 H i b hE.out hil)
       have hKa:=hid (hK.out.trans (Kept.of_below hal9))
       have f0:=blk_cell (o:=0) e0 rfl
       have f1:=blk_cell (o:=1) e0 rfl
       have f2:=blk_cell (o:=2) e0 rfl
       have l1a:=hs_keep l1 hal9
       have m0:=blk_cell (o:=0) l1a rfl
       have m1:=blk_cell (o:=1) l1a rfl
       clear hal9 e0 hK hN1 l1 l2 l3 l1a hE hR hp1 hp2 hp4
       generalize spr NL B (atB H RP[i].left) RP[i].right H = H' at *
       generalize decide (totB H < totB H') = J at *
       generalize RP[i].right.length = v2 at *
       generalize RP[i].left = v1 at *
       generalize RP[i].prec = v3 at *
       cases J with
       | true =>
        go_wp2_with (go_at_call 37;refine GS.out.mono ?_;clear GS;rintro e w7 ⟨rfl,hR7,hK7⟩;have hR7:=hid hR7;have hK7:=hid (hKa.out.trans hK7))
        go_roundw
        case rel => exact ⟨true,H',i + 1,by omega,rfl,by go_num,hR7,hnext,hK7⟩
        case measure => simp [intOf];omega
       | false =>
        rw [Bool.false_or] at hnext
        go_wp2_with (go_at_call 37;refine GS.out.mono ?_;clear GS;rintro e w7 ⟨rfl,hR7,hK7⟩;have hR7:=hid hR7;have hK7:=hid (hKa.out.trans hK7))
        go_roundw
        case rel => exact ⟨b,H',i + 1,by omega,rfl,by go_num,hR7,hnext,hK7⟩
        case measure => simp [intOf];omega
     · have hltz:¬ (i:Int) < (pn:Int):=by omega
       have hall9:Hid (b = false → H = BH):=hid (fun e => by subst e;exact hsp.out B hW2.out H0 H i hI1.out hE.out (by rw [hpn.out];omega))
       have hcnt:Hid ((1750 - totB H) + (if b then 1 else 0) < gk):=hid (by
        have h1:=hg1.out
        have h2:=hE.out.more
        have h3:=htot.out H hE.out.inv
        have h4:=hE.out.le
        cases b with
        | false => simp;omega
        | true =>
         have h2:=h2.symm
         rw [decide_eq_true_iff] at h2
         simp
         omega)
       have hC9:=hid hE.out.inv
       go_wp2
       go_roundg ((1750 - totB H) + (if b then 1 else 0))
       case measure => exact hcnt.out
       case rel => exact ⟨b,H,rfl,hR,hC9,hall9,hK,hid (Nat.le_refl _)⟩
end Go.Proofs.YtfhokapfkclckaaGreat
