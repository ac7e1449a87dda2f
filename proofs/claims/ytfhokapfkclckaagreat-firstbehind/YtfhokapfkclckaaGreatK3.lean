/- Sets of numbers as rising lists; the order of lists: facts of lists alone. Slices of numbers. append of a slice of numbers to a slice of the call's own; copied, slices.Grow, slices.Concat. The contracts of the order of lists: topiaryref04.Order, topiaryref04.Same, slices.Compare, sets.Order; of topiaryref04.Has. -/
import Derived.Test.YtfhokapfkclckaaGreatK2
import Derived.Lib.SlicesCompact
import Derived.WalkKit
import Derived.WalkSpells
import Derived.Lib.SmallJoins
import Derived.Lib.OwnBridge
import Derived.BigQuiet
import Derived.Deep.QuietTactic
import Derived.Deep.RegionHeld3
import Derived.Laws.AppendOwnNone
import Derived.Laws.OwnMore
namespace Go.Proofs.YtfhokapfkclckaaGreat
abbrev Up (l:List Int):Prop:=l.Pairwise (· < ·)
def ins (x:Int):List Int → List Int
 | [] => [x]
 | y :: t => if x < y then x :: y :: t else if x = y then y :: t else y :: ins x t
def ofL:List Int → List Int
 | [] => []
 | x :: t => ins x (ofL t)
theorem ins_mem (x y:Int) (l:List Int):y ∈ ins x l ↔ y = x ∨ y ∈ l:=by
 induction l with
 | nil => simp [ins]
 | cons z t ih =>
  unfold ins
  split
  · simp
  · split
    · rename_i h;subst h;simp
    · simp only [List.mem_cons,ih]
      constructor
      · rintro (h | h | h) <;> simp [h]
      · rintro (h | h | h) <;> simp [h]
theorem ins_up (x:Int) (l:List Int) (h:Up l):Up (ins x l):=by
 induction l with
 | nil => simp [ins,Up]
 | cons z t ih =>
  rw [Up,List.pairwise_cons] at h
  unfold ins
  split
  · rename_i hx
    rw [Up,List.pairwise_cons]
    refine ⟨fun y hy => ?_,List.pairwise_cons.2 h⟩
    rcases List.mem_cons.1 hy with rfl | hy
    · exact hx
    · have:=h.1 y hy;omega
  · split
    · exact List.pairwise_cons.2 h
    · rename_i h1 h2
      rw [Up,List.pairwise_cons]
      refine ⟨fun y hy => ?_,ih h.2⟩
      rcases (ins_mem x y t).1 hy with rfl | hy
      · omega
      · exact h.1 y hy
theorem ins_len (x:Int) (l:List Int):(ins x l).length ≤ l.length + 1:=by
 induction l with
 | nil => simp [ins]
 | cons z t ih =>
  unfold ins
  split
  · simp
  · split
    · simp
    · simp only [List.length_cons];omega
theorem ofL_mem (y:Int) (l:List Int):y ∈ ofL l ↔ y ∈ l:=by
 induction l with
 | nil => simp [ofL]
 | cons z t ih => rw [ofL,ins_mem,ih,List.mem_cons]
theorem ofL_up (l:List Int):Up (ofL l):=by
 induction l with
 | nil => exact List.Pairwise.nil
 | cons z t ih => exact ins_up z _ ih
theorem ofL_len (l:List Int):(ofL l).length ≤ l.length:=by
 induction l with
 | nil => exact Nat.le_refl _
 | cons z t ih => have:=ins_len z (ofL t);simp only [ofL,List.length_cons];omega
theorem up_uniq:∀ {l m:List Int},Up l → Up m → (∀ x,x ∈ l ↔ x ∈ m) → l = m
 | [],[],_,_,_ => rfl
 | [],y :: t,_,_,h => absurd ((h y).2 (List.mem_cons_self)) (by simp)
 | x :: s,[],_,_,h => absurd ((h x).1 (List.mem_cons_self)) (by simp)
 | x :: s,y :: t,hl,hm,h => by
  rw [Up,List.pairwise_cons] at hl hm
  have hxy:x = y:=by
   have h1:=(h x).1 List.mem_cons_self
   have h2:=(h y).2 List.mem_cons_self
   rcases List.mem_cons.1 h1 with e | h1
   · exact e
   · rcases List.mem_cons.1 h2 with e | h2
     · exact e.symm
     · have:=hl.1 y h2;have:=hm.1 x h1;omega
  subst hxy
  congr 1
  refine up_uniq hl.2 hm.2 fun z => ?_
  have hz:=h z
  simp only [List.mem_cons] at hz
  constructor
  · intro hzs
    rcases hz.1 (Or.inr hzs) with e | e
    · subst e;exact absurd (hl.1 _ hzs) (by omega)
    · exact e
  · intro hzt
    rcases hz.2 (Or.inr hzt) with e | e
    · subst e;exact absurd (hm.1 _ hzt) (by omega)
    · exact e
theorem ofL_eq {l s:List Int} (hs:Up s) (h:∀ x,x ∈ s ↔ x ∈ l):s = ofL l:=
 up_uniq hs (ofL_up l) fun x => by rw [h,ofL_mem]
theorem ofL_congr {l m:List Int} (h:∀ x,x ∈ l ↔ x ∈ m):ofL l = ofL m:=
 up_uniq (ofL_up l) (ofL_up m) fun x => by rw [ofL_mem,ofL_mem,h]
theorem mem_compact (zs:List Int) (x:Int):x ∈ Lib.compact zs ↔ x ∈ zs:=by
 have key:∀ m,m ≤ zs.length → ∀ y,y ∈ Lib.compactUpTo zs.toArray m ↔ y ∈ zs.take m:=by
  intro m
  induction m with
  | zero => intro _ y;simp [Lib.compactUpTo]
  | succ m ih =>
   intro hm y
   have hlt:m < zs.length:=hm
   rw [Lib.compactUpTo_succ,List.mem_append,ih (by omega),List.take_succ_eq_append_getElem hlt,List.mem_append]
   have hg:zs.toArray[m]! = zs[m]:=by simp [getElem!_pos,hlt]
   cases hk:Lib.keeps zs.toArray m with
   | true => simp [hg]
   | false =>
    simp only [Bool.false_eq_true,if_false,List.not_mem_nil,or_false,List.mem_singleton]
    constructor
    · exact Or.inl
    · rintro (h | h)
      · exact h
      · have hm0:m ≠ 0:=by rintro rfl;rw [Lib.keeps_lt_one _ 0 (by omega)] at hk;cases hk
        have he:zs.toArray[m]! = zs.toArray[m - 1]!:=by
         by_cases e:zs.toArray[m]! = zs.toArray[m - 1]!
         · exact e
         · rw [Lib.keeps_pos e] at hk;cases hk
        have hg1:zs.toArray[m - 1]! = zs[m - 1]'(by omega):=by simp [getElem!_pos,show m - 1 < zs.length by omega]
        rw [h,← hg,he,hg1]
        exact List.mem_take_iff_getElem.2 ⟨m - 1,by omega,rfl⟩
 have:=key zs.length (Nat.le_refl _) x
 rw [List.take_of_length_le (Nat.le_refl _)] at this
 simpa [Lib.compact] using this
theorem up_compact (zs:List Int) (hs:zs.Pairwise (· ≤ ·)):Up (Lib.compact zs):=by
 have key:∀ m,m ≤ zs.length → Up (Lib.compactUpTo zs.toArray m) ∧ ∀ y ∈ Lib.compactUpTo zs.toArray m,y ∈ zs.take m:=by
  intro m
  induction m with
  | zero => intro _;simp [Lib.compactUpTo,Up]
  | succ m ih =>
   intro hm
   have hlt:m < zs.length:=hm
   obtain ⟨h1,h2⟩:=ih (by omega)
   have hg:zs.toArray[m]! = zs[m]:=by simp [getElem!_pos,hlt]
   rw [Lib.compactUpTo_succ,List.take_succ_eq_append_getElem hlt]
   cases hk:Lib.keeps zs.toArray m with
   | false =>
    simp only [Bool.false_eq_true,if_false,List.append_nil]
    exact ⟨h1,fun y hy => List.mem_append_left _ (h2 y hy)⟩
   | true =>
    simp only [if_true,hg]
    refine ⟨List.pairwise_append.2 ⟨h1,List.pairwise_singleton _ _,fun y hy z hz => ?_⟩,fun y hy => ?_⟩
    · rw [List.mem_singleton] at hz
      subst hz
      obtain ⟨i,hi,rfl⟩:=List.mem_take_iff_getElem.1 (h2 y hy)
      have him:i < m:=by omega
      have hm0:0 < m:=by omega
      have hg1:zs.toArray[m - 1]! = zs[m - 1]'(by omega):=by simp [getElem!_pos,show m - 1 < zs.length by omega]
      have hne:zs[m - 1]'(by omega) ≠ zs[m]:=by
       intro e
       rw [Lib.keeps_neg hm0 (by rw [hg,hg1,e])] at hk
       cases hk
      have hle:=List.pairwise_iff_getElem.1 hs
      have h3:zs[m - 1]'(by omega) ≤ zs[m]:=hle (m - 1) m (by omega) hlt (by omega)
      have h4:zs[i]'(by omega) ≤ zs[m - 1]'(by omega):=by
       by_cases e:i = m - 1
       · subst e;exact Int.le_refl _
       · exact hle i (m - 1) (by omega) (by omega) (by omega)
      omega
    · rcases List.mem_append.1 hy with hy | hy
      · exact List.mem_append_left _ (h2 y hy)
      · exact List.mem_append_right _ hy
 exact (key zs.length (Nat.le_refl _)).1
theorem sorted_ms (l:List Int):(l.mergeSort fun x y => decide (x ≤ y)).Pairwise (· ≤ ·):=by
 have:=List.pairwise_mergeSort (le:=fun x y:Int => decide (x ≤ y)) (fun a b c h1 h2 => by simp at *;omega) (fun a b => by simp;omega) l
 exact this.imp (fun h => of_decide_eq_true h)
theorem ofL_sorted (l:List Int):Lib.compact (l.mergeSort fun x y => decide (x ≤ y)) = ofL l:=
 ofL_eq (up_compact _ (sorted_ms l)) fun x => by rw [mem_compact];exact (List.mergeSort_perm l _).mem_iff
def cmpL:List Int → List Int → Int
 | [],[] => 0
 | [],_ :: _ => -1
 | _ :: _,[] => 1
 | x :: a,y :: b => if x < y then -1 else if y < x then 1 else cmpL a b
theorem cmpL_cases:∀ a b,cmpL a b = -1 ∨ cmpL a b = 0 ∨ cmpL a b = 1
 | [],[] => by simp [cmpL]
 | [],_ :: _ => by simp [cmpL]
 | _ :: _,[] => by simp [cmpL]
 | x :: a,y :: b => by
  have:=cmpL_cases a b
  unfold cmpL
  split
  · simp
  · split
    · simp
    · exact this
theorem cmpL_same:∀ a b,cmpL a b = 0 ↔ a = b
 | [],[] => by simp [cmpL]
 | [],_ :: _ => by simp [cmpL]
 | _ :: _,[] => by simp [cmpL]
 | x :: a,y :: b => by
  have:=cmpL_same a b
  unfold cmpL
  by_cases h1:x < y
  · rw [if_pos h1];simp;omega
  · by_cases h2:y < x
    · rw [if_neg h1,if_pos h2];simp;omega
    · rw [if_neg h1,if_neg h2,this]
      obtain rfl:x = y:=by omega
      simp
theorem cmpL_at {a b:List Int} {k:Nat} (ha:k < a.length) (hb:k < b.length):cmpL (a.drop k) (b.drop k) = if a[k] < b[k] then -1 else if b[k] < a[k] then 1 else cmpL (a.drop (k + 1)) (b.drop (k + 1)):=by
 rw [List.drop_eq_getElem_cons ha,List.drop_eq_getElem_cons hb,cmpL]
theorem cmpL_endA {a b:List Int} {k:Nat} (ha:¬ k < a.length) (hb:k < b.length):cmpL (a.drop k) (b.drop k) = -1:=by
 rw [List.drop_eq_nil_of_le (by omega),List.drop_eq_getElem_cons hb,cmpL]
theorem cmpL_endB {a b:List Int} {k:Nat} (ha:k < a.length) (hb:¬ k < b.length):cmpL (a.drop k) (b.drop k) = 1:=by
 rw [List.drop_eq_getElem_cons ha,List.drop_eq_nil_of_le (show b.length ≤ k by omega),cmpL]
theorem cmpL_end {a b:List Int} {k:Nat} (ha:¬ k < a.length) (hb:¬ k < b.length):cmpL (a.drop k) (b.drop k) = 0:=by
 rw [List.drop_eq_nil_of_le (show a.length ≤ k by omega),List.drop_eq_nil_of_le (show b.length ≤ k by omega),cmpL]
end Go.Proofs.YtfhokapfkclckaaGreat
namespace Go.Proofs.YtfhokapfkclckaaGreat
open Go.RowKit Go.ChangeShapes Go.WideShapes Go.ChangeAt
set_option maxRecDepth 20000 in
theorem Tryz.info3:(Tryz.prog.info? 3).map (fun i => (i.zero,i.size,i.bytes)) = some (some (.int .i64 0),1,8):=by kernel_rfl
set_option maxRecDepth 20000 in
theorem Tryz.cells3:Tryz.prog.cellsOf 3 = 1:=by kernel_rfl
def numCells (l:List Int):List Value:=l.map fun n => .int .i64 n
theorem numCells_app (l m:List Int):numCells (l ++ m) = numCells l ++ numCells m:=by unfold numCells;rw [List.map_append]
theorem numCells_snoc (l:List Int) (n:Int):numCells (l ++ [n]) = numCells l ++ [.int .i64 n]:=numCells_app l [n]
theorem numCells_len (l:List Int):(numCells l).length = l.length:=by unfold numCells;rw [List.length_map]
theorem numCells_at {l:List Int} {j:Nat} (h:j < l.length):(numCells l)[j]? = some (.int .i64 (l[j]'h)):=by unfold numCells;rw [List.getElem?_map,List.getElem?_eq_getElem h];rfl
theorem numCells_one (l:List Int):∀ u ∈ numCells l,u.oneCell' = true:=fun u hu => by
 unfold numCells at hu
 obtain ⟨n,_,rfl⟩:=List.mem_map.1 hu
 rfl
theorem belowN {B:Nat} {w u:World} {n:Nat} (h:Below B w u):Below B w (u.drewN n):=⟨h.os,h.tape,h.output,h.size,h.block⟩
theorem below_app0 {B:Nat} {w0 wr w2:World} {v:Value} {n:Nat} {xs:List Value} (hown:wr.ownsRow B 3 1 v n xs) (hbl:Below B w0 wr) (hB:B ≤ w0.heap.size) (hg:wr.grownBy w2 v.ownBlock):Below B w0 w2:=
 hbl.grown hg (by have:=hbl.size;omega) (fun k hk => (hown.lt k hk).1)
def Nums (w:World) (v:Value) (l:List Int):Prop:=∃ a cap,v = .slice a l.length cap ∧ l.length ≤ cap ∧ (a = none → cap = 0) ∧ ∀ j (h:j < l.length),∃ b o,a = some ⟨b,o,none⟩ ∧ b < w.heap.size ∧ w.cell? ⟨b,o + j,none⟩ = some (.int .i64 l[j])
abbrev Own (w:World) (B:Nat) (v:Value) (l:List Int):Prop:=w.ownsRow B 3 1 v l.length (numCells l)
theorem Nums.of_row {w:World} {base:Nat} {v:Value} {l:List Int} (h:Own w base v l):Nums w v l:=by
 have h':=h
 rcases h.2 with ⟨rfl,h0⟩ | ⟨g,cap,cur,rfl,_,_,hc,_⟩
 · exact ⟨none,0,by rw [h0],by omega,fun _ => rfl,fun j hj => absurd hj (by omega)⟩
 · refine ⟨_,cap,rfl,hc,fun h => (by cases h),fun j hj => ⟨g,0,rfl,(h'.lt g rfl).2,?_⟩⟩
   have:=h'.cells rfl j _ (numCells_at hj)
   by_cases h0:j = 0
   · subst h0;simpa [Addr.add] using this
   · simpa [Addr.add,h0] using this
theorem Nums.keep {w w':World} {v:Value} {l:List Int} (h:Nums w v l) (hb:Below w.heap.size w w'):Nums w' v l:=by
 obtain ⟨a,cap,rfl,hcap,hnil,h⟩:=h
 refine ⟨a,cap,rfl,hcap,hnil,fun j hj => ?_⟩
 obtain ⟨b,o,ha,hlt,hc⟩:=h j hj
 exact ⟨b,o,ha,Nat.lt_of_lt_of_le hlt hb.size,(hb.cell hlt).trans hc⟩
theorem Nums.nil (w:World):Nums w (.slice none 0 0) []:=⟨none,0,rfl,Nat.zero_le _,fun _ => rfl,fun _ h => absurd h (Nat.not_lt_zero _)⟩
theorem Nums.at {w:World} {v:Value} {l:List Int} (h:Nums w v l) (h0:0 < l.length):∃ b o cap,v = .slice (some ⟨b,o,none⟩) l.length cap ∧ l.length ≤ cap ∧ b < w.heap.size ∧ ∀ j (hj:j < l.length),w.cell? ⟨b,o + j,none⟩ = some (.int .i64 l[j]):=by
 obtain ⟨a,cap,rfl,hcap,_,hc⟩:=h
 obtain ⟨b,o,rfl,hb,_⟩:=hc 0 h0
 refine ⟨b,o,cap,rfl,hcap,hb,fun j hj => ?_⟩
 obtain ⟨b',o',e,_,hcell⟩:=hc j hj
 injection e with e;injection e with e1 e2;subst e1;subst e2
 exact hcell
theorem Nums.empty {w:World} {v:Value} (h:Nums w v []):v = .slice none 0 0 ∨ ∃ a cap,v = .slice (some a) 0 cap:=by
 obtain ⟨a,cap,rfl,_,hnil,_⟩:=h
 cases a with
 | none => exact Or.inl (by rw [hnil rfl];rfl)
 | some a => exact Or.inr ⟨a,cap,rfl⟩
theorem Nums.getD {w:World} {b o:Nat} {l:List Int} (h:∀ j (hj:j < l.length),w.cell? ⟨b,o + j,none⟩ = some (.int .i64 l[j])):∀ j,j < l.length → w.cell? ⟨b,o + j,none⟩ = some (.int .i64 (l.getD j 0)):=fun j hj => by
 rw [h j hj,List.getD_eq_getElem?_getD,List.getElem?_eq_getElem hj];rfl
theorem Nums.news {w:World} {b o:Nat} {l:List Int} (h:∀ j (hj:j < l.length),w.cell? ⟨b,o + j,none⟩ = some (.int .i64 l[j])):∀ j u,(numCells l)[j]? = some u → w.cell? ((⟨b,o,none⟩:Addr).add j) = some u:=fun j u hu => by
 have hj:j < l.length:=by
  rcases Nat.lt_or_ge j l.length with h' | h'
  · exact h'
  · rw [List.getElem?_eq_none (by rw [numCells_len];exact h')] at hu;cases hu
 rw [numCells_at hj] at hu
 injection hu with hu
 subst hu
 rw [Go.WideShapes.add_plain]
 exact h j hj
theorem own_base {w:World} {B B' n size:Nat} {e:TypeId} {v:Value} {xs:List Value} (h:w.ownsRow B e size v n xs) (hB:B' ≤ B):w.ownsRow B' e size v n xs:=by
 refine ⟨h.1,h.2.imp id ?_⟩
 rintro ⟨g,cap,cur,rfl,h2,h3⟩
 exact ⟨g,cap,cur,rfl,Nat.le_trans hB h2,h3⟩
theorem Own.lit2 (w:World) (a b:Int):Own (w.alloc (.cells #[.int .i64 a,.int .i64 b] 3)) w.heap.size (.slice (some ⟨w.heap.size,0,none⟩) 2 2) [a,b]:=
 World.ownsRow_lit w #[.int .i64 a,.int .i64 b] 2 (Nat.le_refl _) (by unfold maxLen;omega) rfl
theorem Own.lit1 (w:World) (a:Int):Own (w.alloc (.cells #[.int .i64 a] 3)) w.heap.size (.slice (some ⟨w.heap.size,0,none⟩) 1 1) [a]:=
 World.ownsRow_lit w #[.int .i64 a] 1 (Nat.le_refl _) (by unfold maxLen;omega) rfl
end Go.Proofs.YtfhokapfkclckaaGreat
namespace Go.Proofs.YtfhokapfkclckaaGreat
open Go.RowKit
theorem Nums.parts {w:World} {v:Value} {l:List Int} (h:Nums w v l):(v = .slice none 0 0 ∧ l = []) ∨ ∃ ad cap,v = .slice (some ad) l.length cap ∧ ∀ j u,(numCells l)[j]? = some u → w.cell? (ad.add j) = some u:=by
 by_cases h0:l = []
 · subst h0
   rcases h.empty with rfl | ⟨a,cap,rfl⟩
   · exact Or.inl ⟨rfl,rfl⟩
   · exact Or.inr ⟨a,cap,rfl,fun j u hu => by simp [numCells] at hu⟩
 · obtain ⟨b,o,cap,rfl,hcap,hb,hc⟩:=h.at (List.length_pos_iff.2 h0)
   exact Or.inr ⟨_,cap,rfl,Nums.news hc⟩
set_option maxRecDepth 20000 in
theorem wp_app {ops:Array Oper} {rest:List Oper} {o:Oper} {a:Act} {Q:Exit → Act → World → Prop} (w:World) (hgd:o.guard = none) (s x:Operand)
 (ho:o.op = .call { callee:=.builtin .append,args:=#[s,x],argTypes:=#[30,30] })
 (B:Nat) (l1 l2:List Int) (v vx:Value) (hs:a.eval s = v) (hx:a.eval x = vx) (hown:Own w B v l1) (hN:Nums w vx l2) (hl:l1.length + l2.length ≤ 4000000) (hB:B ≤ w.heap.size)
 (h:∀ v' w',Own w' B v' (l1 ++ l2) → Below B w w' → wpList Tryz.prog ops Q rest (a.put o.dst v') w'):wpList Tryz.prog ops Q (o :: rest) a w:=by
 obtain ⟨i0,hi,hz0,hz1,hz2⟩:=info_parts Tryz.info3
 rcases hN.parts with ⟨rfl,rfl⟩ | ⟨ad,cap,rfl,hnews⟩
 · refine wpList_append_own_none hgd s x 30 ho B 3 i0 1 Tryz.underlying30 hi v _ _ hs hown hx ?_
   rw [List.append_nil] at h
   exact h v w hown ((Below.refl _ w).mono hB)
 · refine wpList_append_own w hgd s x 30 ho B 3 i0 (.int .i64 0) 1 8 Tryz.underlying30 hi hz0 hz1 hz2 rfl (by decide) v _ _ hs hown ad l2.length cap (numCells l2) hx (by rw [numCells_len];omega) hnews (numCells_one l2) (by unfold maxLen;omega) (by omega) hB ?_
   intro v' w' hO hg _
   refine h v' w' ?_ (below_app0 hown ((Below.refl _ w).mono hB) hB hg)
   unfold Own
   rw [numCells_app,List.length_append]
   exact hO
set_option maxRecDepth 20000 in
set_option maxHeartbeats 1000000 in
theorem refOrder (va vb:Value) (la lb:List Int) (w:World) (hla:la.length ≤ 9223372036854775807) (_:lb.length ≤ 9223372036854775807) (hA:Nums w va la) (hB:Nums w vb lb) :
 Calls Tryz.prog 26 #[va,vb] w fun e w' => e = .returned (.int .i64 (cmpL la lb)) ∧ Below w.heap.size w w':=by
 obtain ⟨aa,ca,rfl,_,_,hA⟩:=hA
 obtain ⟨ab,cb,rfl,_,_,hB⟩:=hB
 go_enter Tryz.func26,Tryz.ntmps26
 go_wp2
 go_loopw [5] (fun i wr => ∃ k:Nat,k ≤ la.length ∧ k ≤ lb.length ∧ i = .int .i64 k ∧ cmpL la lb = cmpL (la.drop k) (lb.drop k) ∧ Below w.heap.size w wr) (fun i _ => la.length - (intOf i).toNat)
 case atStart => exact ⟨0,Nat.zero_le _,Nat.zero_le _,rfl,rfl,Below.refl _ w⟩
 case round =>
  obtain ⟨k,hk,hk2,rfl,htk,hbl⟩:=hrel
  by_cases hlt:k < la.length
  · have hltz:(k:Int) < (la.length:Int):=by omega
    by_cases hlt2:k < lb.length
    · have hltz2:(k:Int) < (lb.length:Int):=by omega
      obtain ⟨b1,o1,rfl,hb1,hc1⟩:=hA k hlt
      obtain ⟨b2,o2,rfl,hb2,hc2⟩:=hB k hlt2
      have hd1:=(hbl.cell hb1).trans hc1
      have hd2:=(hbl.cell hb2).trans hc2
      rw [cmpL_at hlt hlt2] at htk
      clear hc1 hc2 hA hB
      generalize la[k] = x at hd1 htk
      generalize lb[k] = y at hd2 htk
      by_cases h1:x < y
      · rw [if_pos h1] at htk
        go_wp2_with fail
        go_quiet (fail)
        go_wp2
        go_ret
        exact ⟨by first | rfl | (rw [htk];rfl),by first | exact belowN hbl | exact belowN (belowN hbl)⟩
      · rw [if_neg h1] at htk
        by_cases h2:y < x
        · rw [if_pos h2] at htk
          go_wp2_with fail
          go_quiet (fail)
          go_wp2_with fail
          go_quiet (fail)
          go_wp2
          go_ret
          exact ⟨by first | rfl | (rw [htk];rfl),by first | exact belowN hbl | exact belowN (belowN hbl)⟩
        · rw [if_neg h2] at htk
          have htk':=hid htk
          clear htk
          go_wp2_with fail
          go_quiet (fail)
          go_wp2_with fail
          go_quiet (fail)
          go_wp2
          go_roundw
          case rel => exact ⟨k + 1,by omega,by omega,by go_num,htk'.out,by first | exact belowN hbl | exact belowN (belowN hbl)⟩
          case measure => simp [intOf];omega
    · have hltz2:¬ (k:Int) < (lb.length:Int):=by omega
      have hz3:¬ (la.length:Int) < (lb.length:Int):=by omega
      have hz4:(lb.length:Int) < (la.length:Int):=by omega
      rw [cmpL_endB hlt hlt2] at htk
      clear hA hB
      go_wp2
      go_ret
      exact ⟨by first | rfl | (rw [htk];rfl),hbl⟩
  · obtain rfl:k = la.length:=by omega
    clear hA hB
    by_cases hlt2:la.length < lb.length
    · have hltz2:(la.length:Int) < (lb.length:Int):=by omega
      rw [cmpL_endA hlt hlt2] at htk
      go_wp2
      go_ret
      exact ⟨by first | rfl | (rw [htk];rfl),hbl⟩
    · rw [cmpL_end hlt hlt2] at htk
      have hltz2:¬ (la.length:Int) < (lb.length:Int):=by omega
      have hz':¬ (lb.length:Int) < (la.length:Int):=by omega
      go_wp2
      go_ret
      exact ⟨by first | rfl | (rw [htk];rfl),hbl⟩
set_option maxRecDepth 20000 in
theorem refSame (va vb:Value) (la lb:List Int) (w:World) (hla:la.length ≤ 9223372036854775807) (hlb:lb.length ≤ 9223372036854775807) (hA:Nums w va la) (hB:Nums w vb lb) :
 Calls Tryz.prog 12 #[va,vb] w fun e w' => e = .returned (.bool (decide (la = lb))) ∧ Below w.heap.size w w':=by
 have G:=hid (refOrder va vb la lb w hla hlb hA hB)
 by_cases h:la = lb
 · have h0:=(cmpL_same la lb).2 h
   rw [h0] at G
   rw [decide_eq_true h]
   clear h h0 hA hB
   go_enter Tryz.func12,Tryz.ntmps12
   go_wp2_with (go_at_call 26;refine (G.out).mono ?_;rintro e w1 ⟨rfl,hb⟩)
   go_ret
   exact ⟨rfl,hb⟩
 · have h0:(cmpL la lb == 0) = false:=beq_eq_false_iff_ne.2 fun e => h ((cmpL_same la lb).1 e)
   rw [decide_eq_false h]
   generalize cmpL la lb = c at G h0
   clear h hA hB
   go_enter Tryz.func12,Tryz.ntmps12
   go_wp2_with (go_at_call 26;refine (G.out).mono ?_;rintro e w1 ⟨rfl,hb⟩)
   go_ret
   exact ⟨rfl,hb⟩
end Go.Proofs.YtfhokapfkclckaaGreat
