/- Slices copied: any rows; rows of three of which the middle one changes. Slices of things whose cells are told by a list, and back. A row of three of which the middle one is copied, beside a box: what a loop holds. topiarylaw12.copied: a grammar of its own. -/
import Derived.Test.YtbpnioehmohbcaaGreatJ15
import Derived.Deep.Strs
namespace Go.Proofs.YtbpnioehmohbcaaGreat
open Go.RowKit Go.Maps Go.Sort
theorem own_put {w:World} {B n size g cap i:Nat} {e:TypeId} {xs:List Value} (h:w.ownsRow B e size (.slice (some ⟨g,0,none⟩) n cap) n xs) (x:Value):(w.setCell ⟨g,i,none⟩ x).ownsRow B e size (.slice (some ⟨g,0,none⟩) n cap) n (xs.set i x):=by
 refine ⟨by rw [List.length_set];exact h.1,?_⟩
 rcases h.2 with ⟨h1,_⟩ | ⟨g',cap',cur,h1,h2,h3,h4,h5,h6,h7⟩
 · cases h1
 · have h8:=h1
   injection h1 with e1 _ e3
   injection e1 with e1
   injection e1 with e1 _ _
   subst e1 e3
   refine .inr ⟨g,cap,cur.setIfInBounds i x,rfl,h2,heap_setCell h3,h4,h5,by rw [Array.size_setIfInBounds];exact h6,?_⟩
   rw [Array.toList_setIfInBounds,List.take_set,h7]
def OffP (F:Nat → Prop) (v:Value):Prop:=∀ a n c,v = .slice (some a) n c → 0 < n → ¬ F a.block
theorem Cels.keptP {F:Nat → Prop} {w w':World} {v:Value} {l:List Cel} (h:Cels w v l) (hk:Kept F w w') (ho:OffP F v):Cels w' v l:=by
 obtain ⟨a,cap,rfl,hc,hn,hf,hat⟩:=h
 refine ⟨a,cap,rfl,hc,hn,hf,fun j hj => ?_⟩
 obtain ⟨b,o,rfl,hlt,h5⟩:=hat j hj
 have hn:¬ F b:=ho _ _ _ rfl (by omega)
 obtain ⟨x0,x1,x2,x3,x4⟩:=h5
 exact ⟨b,o,rfl,Nat.lt_of_lt_of_le hlt hk.size,hk.cell x0 hlt hn,hk.cell x1 hlt hn,hk.cell x2 hlt hn,hk.cell x3 hlt hn,hk.cell x4 hlt hn⟩
theorem own_off {F:Nat → Prop} {w:World} {B n size:Nat} {e:TypeId} {v:Value} {xs:List Value} (h:w.ownsRow B e size v n xs) (hF:∀ b,B ≤ b → ¬ F b):OffP F v:=fun a m c e hn => by
 rcases h.2 with ⟨rfl,_⟩ | ⟨g',cap',cur,rfl,h2,h3,_⟩
 · cases e
 · injection e with e1 _ _
   injection e1 with e1
   subst e1
   exact hF _ h2
end Go.Proofs.YtbpnioehmohbcaaGreat
namespace Go.Proofs.YtbpnioehmohbcaaGreat
open Go.RowKit Go.Maps Go.Sort
theorem flat_at {α:Type} {sz:Nat} (cs:α → List Value) (hc:∀ x,(cs x).length = sz):∀ (l:List α) (j i:Nat) (h:j < l.length),i < sz → (l.flatMap cs)[j * sz + i]? = (cs l[j])[i]?
 | [],j,i,h,_ => absurd h (Nat.not_lt_zero _)
 | a :: l,0,i,h,hi => by
  rw [List.flatMap_cons,Nat.zero_mul,Nat.zero_add,List.getElem?_append_left (by rw [hc];exact hi)]
  rfl
 | a :: l,j + 1,i,h,hi => by
  have h1:j < l.length:=by simpa using h
  have e:(j + 1) * sz + i = (cs a).length + (j * sz + i):=by rw [hc,Nat.succ_mul];omega
  rw [List.flatMap_cons,e,List.getElem?_append_right (Nat.le_add_right _ _),Nat.add_sub_cancel_left,flat_at cs hc l j i h1 hi]
  rfl
theorem own_at {α:Type} {sz:Nat} {cs:α → List Value} (hc:∀ x,(cs x).length = sz) {w:World} {B:Nat} {e:TypeId} {v:Value} {l:List α} (_hz:0 < sz) (h:w.ownsRow B e sz v l.length (l.flatMap cs)) :
 ∃ a cap,v = .slice a l.length cap ∧ l.length ≤ cap ∧ (a = none → cap = 0) ∧ ∀ j (h:j < l.length),∃ b o,a = some ⟨b,o,none⟩ ∧ b < w.heap.size ∧ ∀ i,i < sz → w.cell? ⟨b,o + j * sz + i,none⟩ = (cs l[j])[i]?:=by
 have h':=h
 rcases h.2 with ⟨rfl,h0⟩ | ⟨g,cap,cur,rfl,_,_,hc',_⟩
 · exact ⟨none,0,by rw [h0],by omega,fun _ => rfl,fun j hj => by omega⟩
 · refine ⟨_,cap,rfl,hc',(fun h => by cases h),fun j hj => ⟨g,0,rfl,(h'.lt g rfl).2,fun i hi => ?_⟩⟩
   rw [Nat.zero_add,← flat_at cs hc l j i hj hi]
   refine h'.cellAt (j * sz + i) ?_
   have h1:(j + 1) * sz ≤ l.length * sz:=Nat.mul_le_mul_right _ hj
   rw [Nat.succ_mul] at h1
   omega
def csT (t:Txt):List Value:=[.string (strT t)]
def csL (p:Int × Int):List Value:=[.int .i64 p.1,.int .i64 p.2]
def csI (n:Int):List Value:=[.int .i64 n]
theorem txt_own {w:World} {B:Nat} {e:TypeId} {v:Value} {l:List Txt} (h:w.ownsRow B e 1 v l.length (l.flatMap csT)):Lst 1 TxtAt w v l:=by
 obtain ⟨a,cap,e,hc,hn,hat⟩:=own_at (sz:=1) (cs:=csT) (fun _ => rfl) (by decide) h
 refine ⟨a,cap,e,hc,hn,fun j hj => ?_⟩
 obtain ⟨b,o,e,hlt,hx⟩:=hat j hj
 exact ⟨b,o,e,hlt,hx 0 (by decide)⟩
theorem lev_own {w:World} {B:Nat} {e:TypeId} {v:Value} {l:List (Int × Int)} (h:w.ownsRow B e 2 v l.length (l.flatMap csL)):Lst 2 LevAt w v l:=by
 obtain ⟨a,cap,e,hc,hn,hat⟩:=own_at (sz:=2) (cs:=csL) (fun _ => rfl) (by decide) h
 refine ⟨a,cap,e,hc,hn,fun j hj => ?_⟩
 obtain ⟨b,o,e,hlt,hx⟩:=hat j hj
 exact ⟨b,o,e,hlt,hx 0 (by decide),hx 1 (by decide)⟩
theorem nums_own {w:World} {B:Nat} {e:TypeId} {v:Value} {l:List Int} (h:w.ownsRow B e 1 v l.length (l.flatMap csI)):Nums w v l:=by
 obtain ⟨a,cap,e,hc,hn,hat⟩:=own_at (sz:=1) (cs:=csI) (fun _ => rfl) (by decide) h
 refine ⟨a,cap,e,hc,hn,fun j hj => ?_⟩
 obtain ⟨b,o,e,hlt,hx⟩:=hat j hj
 have h0:=hx 0 (by decide)
 rw [Nat.mul_one] at h0
 exact ⟨b,o,e,hlt,h0⟩
end Go.Proofs.YtbpnioehmohbcaaGreat
namespace Go.Proofs.YtbpnioehmohbcaaGreat
open Go.RowKit Go.Maps Go.Sort
structure RestOf (R:Prop):Prop where
 out:R
theorem collapse {R G:Prop} (h:RestOf R → G) (pf:R):G:=h ⟨pf⟩
theorem OffP.mono {F G:Nat → Prop} {v:Value} (h:OffP F v) (hG:∀ b,G b → F b):OffP G v:=fun a n c e hn hg => h a n c e hn (hG _ hg)
set_option maxRecDepth 20000 in
theorem wp_run {ops:Array Oper} {rest:List Oper} {o:Oper} {a:Act} {Q:Exit → Act → World → Prop} (w:World) (hgd:o.guard = none) (s x:Operand) (t:TypeId)
 (ho:o.op = .call { callee:=.builtin .append,args:=#[s,x],argTypes:=#[t,t] }) (v vx:Value) (hs:a.eval s = v) (hx:a.eval x = vx) {v':Value} {w':World}
 (hr:(Builtin.append_ #[t,t] o.type #[v,vx]).run Tryz.prog w = .ok v' w') (h:wpList Tryz.prog ops Q rest (a.put o.dst v') w'):wpList Tryz.prog ops Q (o :: rest) a w:=by
 refine wpList_plain hgd fun K hK => ?_
 unfold Oper.wp execOp
 simp only [ho,resolve,invoke,builtin,Sem.run_bind,Sem.run_pure,Result.andThen_ok,List.map_toArray,List.map_cons,List.map_nil,hs,hx,hr]
 exact hK _ _ h
set_option maxRecDepth 20000 in
theorem step_run {ops:Array Oper} {o:Oper} {a:Act} {w:World} {K:Act → World → Prop} {Q:Exit → Act → World → Prop} {E:Prop} (hgd:o.guard = none) (s x:Operand) (t:TypeId)
 (ho:o.op = .call { callee:=.builtin .append,args:=#[s,x],argTypes:=#[t,t] }) (v vx:Value) (hs:a.eval s = v) (hx:a.eval x = vx) {v':Value} {w':World}
 (hr:(Builtin.append_ #[t,t] o.type #[v,vx]).run Tryz.prog w = .ok v' w') (h:K (a.put o.dst v') w'):if Region.wanted o (yielded ops a.tmps) = true then Oper.wp Tryz.prog o a w K Q else E:=by
 have hw:Region.wanted o (yielded ops a.tmps) = true:=by simp [Region.wanted,hgd]
 rw [if_pos hw]
 unfold Oper.wp
 simp [execOp,ho,resolve,invoke,builtin,hs,hx,hr,Result.andThen]
 exact h
theorem putT5 {u:World} {b t:Nat} {x0 x1 x2 x3 x4:Value} (h:u.heap[b]? = some (.cells #[x0,x1,x2,x3,x4] t (0,0))) (v0 v1 v2 v3 v4:Value) :
 (u.cell? ⟨b,0,none⟩ = some x0 ∧ u.frozen? ⟨b,0,none⟩ = false) ∧
 ((u.setCell ⟨b,0,none⟩ v0).cell? ⟨b,1,none⟩ = some x1 ∧ (u.setCell ⟨b,0,none⟩ v0).frozen? ⟨b,1,none⟩ = false) ∧
 (((u.setCell ⟨b,0,none⟩ v0).setCell ⟨b,1,none⟩ v1).cell? ⟨b,2,none⟩ = some x2 ∧ ((u.setCell ⟨b,0,none⟩ v0).setCell ⟨b,1,none⟩ v1).frozen? ⟨b,2,none⟩ = false) ∧
 ((((u.setCell ⟨b,0,none⟩ v0).setCell ⟨b,1,none⟩ v1).setCell ⟨b,2,none⟩ v2).cell? ⟨b,3,none⟩ = some x3 ∧ (((u.setCell ⟨b,0,none⟩ v0).setCell ⟨b,1,none⟩ v1).setCell ⟨b,2,none⟩ v2).frozen? ⟨b,3,none⟩ = false) ∧
 (((((u.setCell ⟨b,0,none⟩ v0).setCell ⟨b,1,none⟩ v1).setCell ⟨b,2,none⟩ v2).setCell ⟨b,3,none⟩ v3).cell? ⟨b,4,none⟩ = some x4 ∧ ((((u.setCell ⟨b,0,none⟩ v0).setCell ⟨b,1,none⟩ v1).setCell ⟨b,2,none⟩ v2).setCell ⟨b,3,none⟩ v3).frozen? ⟨b,4,none⟩ = false) ∧
 (((((u.setCell ⟨b,0,none⟩ v0).setCell ⟨b,1,none⟩ v1).setCell ⟨b,2,none⟩ v2).setCell ⟨b,3,none⟩ v3).setCell ⟨b,4,none⟩ v4).heap[b]? = some (.cells #[v0,v1,v2,v3,v4] t (0,0)):=by
 have h1:(u.setCell ⟨b,0,none⟩ v0).heap[b]? = some (.cells #[v0,x1,x2,x3,x4] t (0,0)):=heap_setCell h
 have h2:((u.setCell ⟨b,0,none⟩ v0).setCell ⟨b,1,none⟩ v1).heap[b]? = some (.cells #[v0,v1,x2,x3,x4] t (0,0)):=heap_setCell h1
 have h3:(((u.setCell ⟨b,0,none⟩ v0).setCell ⟨b,1,none⟩ v1).setCell ⟨b,2,none⟩ v2).heap[b]? = some (.cells #[v0,v1,v2,x3,x4] t (0,0)):=heap_setCell h2
 have h4:((((u.setCell ⟨b,0,none⟩ v0).setCell ⟨b,1,none⟩ v1).setCell ⟨b,2,none⟩ v2).setCell ⟨b,3,none⟩ v3).heap[b]? = some (.cells #[v0,v1,v2,v3,x4] t (0,0)):=heap_setCell h3
 exact ⟨⟨blk_cell h rfl,blk_frozen h 0⟩,⟨blk_cell h1 rfl,blk_frozen h1 1⟩,⟨blk_cell h2 rfl,blk_frozen h2 2⟩,⟨blk_cell h3 rfl,blk_frozen h3 3⟩,⟨blk_cell h4 rfl,blk_frozen h4 4⟩,heap_setCell h4⟩
end Go.Proofs.YtbpnioehmohbcaaGreat
namespace Go.Proofs.YtbpnioehmohbcaaGreat
open Go.RowKit Go.Maps Go.Sort
set_option maxRecDepth 20000 in
theorem Tryz.infRl:(Tryz.prog.info? 50).map (fun i => (i.zero,i.size,i.bytes)) = some (some (.agg #[.string ⟨#[]⟩,.slice none 0 0,.bool false]),3,48):=by kernel_rfl
set_option maxRecDepth 20000 in
theorem Tryz.infPd:(Tryz.prog.info? 52).map (fun i => (i.zero,i.size,i.bytes)) = some (some (.agg #[.int .i64 0,.slice none 0 0,.int .i64 0]),3,40):=by kernel_rfl
set_option maxRecDepth 20000 in
theorem Tryz.infLv:(Tryz.prog.info? 96).map (fun i => (i.zero,i.size,i.bytes)) = some (some (.agg #[.int .i64 0,.int .i64 0]),2,16):=by kernel_rfl
set_option maxRecDepth 20000 in
theorem Tryz.infIn:(Tryz.prog.info? 3).map (fun i => (i.zero,i.size,i.bytes)) = some (some (.int .i64 0),1,8):=by kernel_rfl
end Go.Proofs.YtbpnioehmohbcaaGreat
