/- Slices of numbers. The contracts of the order of lists: topiaryref04.Order, topiaryref04.Same, slices.Compare, sets.Order; of topiaryref04.Has. What layer 11 leans on: worlds, rows, texts. The maths of layer 11: blanks, words, a text's words. -/
import Derived.Test.YtbpnioehmohbcaaGreatJ4
import Derived.Test.YtbpnioehmohbcaaGreatJ9
import Derived.WalkKit
import Derived.WalkSpells
import Derived.Lib.SmallJoins
import Derived.Lib.OwnBridge
import Derived.BigQuiet
import Derived.Deep.QuietTactic
import Derived.Deep.RegionHeld3
import Derived.ProofKit
import Derived.OpenShut
import Derived.Carry
import Derived.Laws.StructEq
import Derived.ChangeKeysEq
import Derived.Deep.DeepHandedRow
import Derived.Lib.LaidTab
import Derived.Shelf.Spec.TrailingZeros
import Derived.MakeChecks
import Derived.Lib.TrailingZeros
import Derived.Laws.AppendOwnNone
import Derived.Laws.OwnMore
import Derived.Laws.BytesString
import Derived.OwnWalk
import Derived.Deep.RegionLaw
import Derived.Deep.OwnRows
import Derived.BigRegion
import Derived.Lib.SlicesCompact
import Derived.Deep.AppendLies
import Derived.Maps.AppendAt
import Derived.Maps.OwnSet
import Derived.Deep.DrawnRows
import Derived.WalkMore
import Derived.Lib.QuietBelow
import Derived.WalkLawsBesides
import Derived.Laws.StandIn
import Derived.Lib.Bytealg
import Derived.Laws.BitsAllLaws
import Derived.Laws.Bits128
import Derived.Lib.UnsafeStr
import Derived.Laws.BytesArg
import Derived.Lib.IndexLaws
import Derived.Defers
import Derived.Recover
import Derived.ChangeSlices
import Derived.Deep.Slices
import Derived.WideKeyArr2
import Derived.SizedLaws
namespace Go.Proofs.YtbpnioehmohbcaaGreat
open Go.RowKit Go.ChangeShapes Go.WideShapes Go.ChangeAt
set_option maxRecDepth 20000 in
theorem Tryz.info3:(Tryz.prog.info? 3).map (fun i => (i.zero,i.size,i.bytes)) = some (some (.int .i64 0),1,8):=by kernel_rfl
set_option maxRecDepth 20000 in
theorem Tryz.cells3:Tryz.prog.cellsOf 3 = 1:=by kernel_rfl
def numCells (l:List Int):List Value:=l.map fun n => .int .i64 n
theorem numCells_app (l m:List Int):numCells (l ++ m) = numCells l ++ numCells m:=by unfold numCells;rw [List.map_append]
theorem numCells_len (l:List Int):(numCells l).length = l.length:=by unfold numCells;rw [List.length_map]
theorem numCells_at {l:List Int} {j:Nat} (h:j < l.length):(numCells l)[j]? = some (.int .i64 (l[j]'h)):=by unfold numCells;rw [List.getElem?_map,List.getElem?_eq_getElem h];rfl
theorem numCells_one (l:List Int):∀ u ∈ numCells l,u.oneCell' = true:=fun u hu => by
 unfold numCells at hu
 obtain ⟨n,_,rfl⟩:=List.mem_map.1 hu
 rfl
theorem belowN {B:Nat} {w u:World} {n:Nat} (h:Below B w u):Below B w (u.drewN n):=⟨h.os,h.tape,h.output,h.size,h.block⟩
theorem below_app0 {B:Nat} {w0 wr w2:World} {v:Value} {n:Nat} {xs:List Value} (hown:wr.ownsRow B 3 1 v n xs) (hbl:Below B w0 wr) (hB:B ≤ w0.heap.size) (hg:wr.grownBy w2 v.ownBlock):Below B w0 w2:=
 hbl.grown hg (by have:=hbl.size;omega) (fun k hk => (hown.lt k hk).1)
def Nums (w:World) (v:Value) (l:List Int):Prop:=∃ a cap,v = .slice a l.length cap ∧ l.length ≤ cap ∧ (a = none → cap = 0) ∧ ∀ j (h:j < l.length),∃ b o,a = some ⟨b,o,none⟩ ∧ b < w.heap.size ∧ w.cell? ⟨b,o + j,none⟩ = some (.int .i64 l[j])
abbrev Own (w:World) (B:Nat) (v:Value) (l:List Int):Prop:=w.ownsRow B 3 1 v l.length (numCells l)
theorem Nums.of_row {w:World} {base:Nat} {v:Value} {l:List Int} (h:Own w base v l):Nums w v l:=by
 have h':=h
 rcases h.2 with ⟨rfl,h0⟩ | ⟨g,cap,cur,rfl,_,_,hc,_⟩
 · exact ⟨none,0,by rw [h0],by omega,fun _ => rfl,fun j hj => absurd hj (by omega)⟩
 · refine ⟨_,cap,rfl,hc,fun h => (by cases h),fun j hj => ⟨g,0,rfl,(h'.lt g rfl).2,?_⟩⟩
   have:=h'.cells rfl j _ (numCells_at hj)
   by_cases h0:j = 0
   · subst h0;simpa [Addr.add] using this
   · simpa [Addr.add,h0] using this
theorem Nums.keep {w w':World} {v:Value} {l:List Int} (h:Nums w v l) (hb:Below w.heap.size w w'):Nums w' v l:=by
 obtain ⟨a,cap,rfl,hcap,hnil,h⟩:=h
 refine ⟨a,cap,rfl,hcap,hnil,fun j hj => ?_⟩
 obtain ⟨b,o,ha,hlt,hc⟩:=h j hj
 exact ⟨b,o,ha,Nat.lt_of_lt_of_le hlt hb.size,(hb.cell hlt).trans hc⟩
theorem Nums.nil (w:World):Nums w (.slice none 0 0) []:=⟨none,0,rfl,Nat.zero_le _,fun _ => rfl,fun _ h => absurd h (Nat.not_lt_zero _)⟩
theorem Nums.at {w:World} {v:Value} {l:List Int} (h:Nums w v l) (h0:0 < l.length):∃ b o cap,v = .slice (some ⟨b,o,none⟩) l.length cap ∧ l.length ≤ cap ∧ b < w.heap.size ∧ ∀ j (hj:j < l.length),w.cell? ⟨b,o + j,none⟩ = some (.int .i64 l[j]):=by
 obtain ⟨a,cap,rfl,hcap,_,hc⟩:=h
 obtain ⟨b,o,rfl,hb,_⟩:=hc 0 h0
 refine ⟨b,o,cap,rfl,hcap,hb,fun j hj => ?_⟩
 obtain ⟨b',o',e,_,hcell⟩:=hc j hj
 injection e with e;injection e with e1 e2;subst e1;subst e2
 exact hcell
theorem Nums.empty {w:World} {v:Value} (h:Nums w v []):v = .slice none 0 0 ∨ ∃ a cap,v = .slice (some a) 0 cap:=by
 obtain ⟨a,cap,rfl,_,hnil,_⟩:=h
 cases a with
 | none => exact Or.inl (by rw [hnil rfl];rfl)
 | some a => exact Or.inr ⟨a,cap,rfl⟩
theorem Nums.news {w:World} {b o:Nat} {l:List Int} (h:∀ j (hj:j < l.length),w.cell? ⟨b,o + j,none⟩ = some (.int .i64 l[j])):∀ j u,(numCells l)[j]? = some u → w.cell? ((⟨b,o,none⟩:Addr).add j) = some u:=fun j u hu => by
 have hj:j < l.length:=by
  rcases Nat.lt_or_ge j l.length with h' | h'
  · exact h'
  · rw [List.getElem?_eq_none (by rw [numCells_len];exact h')] at hu;cases hu
 rw [numCells_at hj] at hu
 injection hu with hu
 subst hu
 rw [Go.WideShapes.add_plain]
 exact h j hj
theorem own_base {w:World} {B B' n size:Nat} {e:TypeId} {v:Value} {xs:List Value} (h:w.ownsRow B e size v n xs) (hB:B' ≤ B):w.ownsRow B' e size v n xs:=by
 refine ⟨h.1,h.2.imp id ?_⟩
 rintro ⟨g,cap,cur,rfl,h2,h3⟩
 exact ⟨g,cap,cur,rfl,Nat.le_trans hB h2,h3⟩
theorem Own.lit1 (w:World) (a:Int):Own (w.alloc (.cells #[.int .i64 a] 3)) w.heap.size (.slice (some ⟨w.heap.size,0,none⟩) 1 1) [a]:=
 World.ownsRow_lit w #[.int .i64 a] 1 (Nat.le_refl _) (by unfold maxLen;omega) rfl
end Go.Proofs.YtbpnioehmohbcaaGreat
namespace Go.Proofs.YtbpnioehmohbcaaGreat
open Go.RowKit
set_option maxRecDepth 20000 in
set_option maxHeartbeats 1000000 in
theorem refOrder (va vb:Value) (la lb:List Int) (w:World) (hla:la.length ≤ 9223372036854775807) (_:lb.length ≤ 9223372036854775807) (hA:Nums w va la) (hB:Nums w vb lb) :
 Calls Tryz.prog 33 #[va,vb] w fun e w' => e = .returned (.int .i64 (cmpL la lb)) ∧ Below w.heap.size w w':=by
 obtain ⟨aa,ca,rfl,_,_,hA⟩:=hA
 obtain ⟨ab,cb,rfl,_,_,hB⟩:=hB
 go_enter Tryz.func33,Tryz.ntmps33
 go_wp2
 go_loopw [5] (fun i wr => ∃ k:Nat,k ≤ la.length ∧ k ≤ lb.length ∧ i = .int .i64 k ∧ cmpL la lb = cmpL (la.drop k) (lb.drop k) ∧ Below w.heap.size w wr) (fun i _ => la.length - (intOf i).toNat)
 case atStart => exact ⟨0,Nat.zero_le _,Nat.zero_le _,rfl,rfl,Below.refl _ w⟩
 case round =>
  obtain ⟨k,hk,hk2,rfl,htk,hbl⟩:=hrel
  by_cases hlt:k < la.length
  · have hltz:(k:Int) < (la.length:Int):=by omega
    by_cases hlt2:k < lb.length
    · have hltz2:(k:Int) < (lb.length:Int):=by omega
      obtain ⟨b1,o1,rfl,hb1,hc1⟩:=hA k hlt
      obtain ⟨b2,o2,rfl,hb2,hc2⟩:=hB k hlt2
      have hd1:=(hbl.cell hb1).trans hc1
      have hd2:=(hbl.cell hb2).trans hc2
      rw [cmpL_at hlt hlt2] at htk
      clear hc1 hc2 hA hB
      generalize la[k] = x at hd1 htk
      generalize lb[k] = y at hd2 htk
      by_cases h1:x < y
      · rw [if_pos h1] at htk
        go_wp2_with fail
        go_quiet (fail)
        go_wp2
        go_ret
        exact ⟨by first | rfl | (rw [htk];rfl),by first | exact belowN hbl | exact belowN (belowN hbl)⟩
      · rw [if_neg h1] at htk
        by_cases h2:y < x
        · rw [if_pos h2] at htk
          go_wp2_with fail
          go_quiet (fail)
          go_wp2_with fail
          go_quiet (fail)
          go_wp2
          go_ret
          exact ⟨by first | rfl | (rw [htk];rfl),by first | exact belowN hbl | exact belowN (belowN hbl)⟩
        · rw [if_neg h2] at htk
          have htk':=hid htk
          clear htk
          go_wp2_with fail
          go_quiet (fail)
          go_wp2_with fail
          go_quiet (fail)
          go_wp2
          go_roundw
          case rel => exact ⟨k + 1,by omega,by omega,by go_num,htk'.out,by first | exact belowN hbl | exact belowN (belowN hbl)⟩
          case measure => simp [intOf];omega
    · have hltz2:¬ (k:Int) < (lb.length:Int):=by omega
      have hz3:¬ (la.length:Int) < (lb.length:Int):=by omega
      have hz4:(lb.length:Int) < (la.length:Int):=by omega
      rw [cmpL_endB hlt hlt2] at htk
      clear hA hB
      go_wp2
      go_ret
      exact ⟨by first | rfl | (rw [htk];rfl),hbl⟩
  · obtain rfl:k = la.length:=by omega
    clear hA hB
    by_cases hlt2:la.length < lb.length
    · have hltz2:(la.length:Int) < (lb.length:Int):=by omega
      rw [cmpL_endA hlt hlt2] at htk
      go_wp2
      go_ret
      exact ⟨by first | rfl | (rw [htk];rfl),hbl⟩
    · rw [cmpL_end hlt hlt2] at htk
      have hltz2:¬ (la.length:Int) < (lb.length:Int):=by omega
      have hz':¬ (lb.length:Int) < (la.length:Int):=by omega
      go_wp2
      go_ret
      exact ⟨by first | rfl | (rw [htk];rfl),hbl⟩
set_option maxRecDepth 20000 in
theorem refSame (va vb:Value) (la lb:List Int) (w:World) (hla:la.length ≤ 9223372036854775807) (hlb:lb.length ≤ 9223372036854775807) (hA:Nums w va la) (hB:Nums w vb lb) :
 Calls Tryz.prog 14 #[va,vb] w fun e w' => e = .returned (.bool (decide (la = lb))) ∧ Below w.heap.size w w':=by
 have G:=hid (refOrder va vb la lb w hla hlb hA hB)
 by_cases h:la = lb
 · have h0:=(cmpL_same la lb).2 h
   rw [h0] at G
   rw [decide_eq_true h]
   clear h h0 hA hB
   go_enter Tryz.func14,Tryz.ntmps14
   go_wp2_with (go_at_call 33;refine (G.out).mono ?_;rintro e w1 ⟨rfl,hb⟩)
   go_ret
   exact ⟨rfl,hb⟩
 · have h0:(cmpL la lb == 0) = false:=beq_eq_false_iff_ne.2 fun e => h ((cmpL_same la lb).1 e)
   rw [decide_eq_false h]
   generalize cmpL la lb = c at G h0
   clear h hA hB
   go_enter Tryz.func14,Tryz.ntmps14
   go_wp2_with (go_at_call 33;refine (G.out).mono ?_;rintro e w1 ⟨rfl,hb⟩)
   go_ret
   exact ⟨rfl,hb⟩
end Go.Proofs.YtbpnioehmohbcaaGreat
namespace Go.Proofs.YtbpnioehmohbcaaGreat
open Go.ChangeShapes Go.WideShapes Go.ChangeAt Go.RowKit Go.Sort Go.Maps Go.Lib
theorem Kept.of_grown {w w':World} {r:Option Nat} (h:w.grownBy w' r):Kept (fun k => r = some k) w w':=by
 obtain ⟨h1,h2,h3,h4,h5⟩:=h
 exact ⟨by assumption,by assumption,by assumption,by assumption,fun k hk hn => h5 k hk (fun e => hn (by first | exact e | exact e.symm))⟩
theorem own_kept {F:Nat → Prop} {w w':World} {base size n:Nat} {e:TypeId} {v:Value} {xs:List Value} (h:w.ownsRow base e size v n xs) (hk:Kept F w w') (ho:∀ k,v.ownBlock = some k → ¬ F k):w'.ownsRow base e size v n xs:=
 own_keep h fun k e => hk.block k (h.lt k e).2 (ho k e)
theorem hs_keep {w w':World} {b:Nat} {x:Obj} (h:w.heap[b]? = some x) (hb:Below w.heap.size w w'):w'.heap[b]? = some x:=(hb.block b (blk_lt h)).trans h
theorem own_shape {w:World} {B n size:Nat} {e:TypeId} {v:Value} {xs:List Value} (h:w.ownsRow B e size v n xs):∃ a c,v = .slice a n c:=by
 rcases h.2 with ⟨rfl,h0⟩ | ⟨g,cap,cur,rfl,_⟩
 · exact ⟨none,0,by rw [h0]⟩
 · exact ⟨_,_,rfl⟩
theorem own_form3 {w:World} {B n size:Nat} {e:TypeId} {v:Value} {xs:List Value} (h:w.ownsRow B e size v n xs) (hn:0 < n):∃ g cap,v = .slice (some ⟨g,0,none⟩) n cap ∧ n ≤ cap:=by
 rcases h.2 with ⟨rfl,h0⟩ | ⟨g,cap,cur,rfl,_,_,hc,_⟩
 · omega
 · exact ⟨g,cap,rfl,hc⟩
theorem own_set {w:World} {pb o size n B:Nat} {e:TypeId} {v x:Value} {xs:List Value} (h:w.ownsRow B e size v n xs) (hn:v.ownBlock ≠ some pb):(w.setCell ⟨pb,o,none⟩ x).ownsRow B e size v n xs:=
 own_keep h fun k hk => Below.heap_setCell w ⟨pb,o,none⟩ x k (fun e => hn (by rw [hk,e]))
theorem cells3m {w:World} {b t:Nat} {x y z:Value} (h:w.heap[b]? = some (.cells #[x,y,z] t (0,0))):(w.cell? ⟨b,0,none⟩ = some x ∧ w.frozen? ⟨b,0,none⟩ = false) ∧ (w.cell? ⟨b,1,none⟩ = some y ∧ w.frozen? ⟨b,1,none⟩ = false) ∧ (w.cell? ⟨b,2,none⟩ = some z ∧ w.frozen? ⟨b,2,none⟩ = false):=by
 refine ⟨⟨?_,?_⟩,⟨?_,?_⟩,⟨?_,?_⟩⟩ <;> simp [World.cell?,World.frozen?,h]
theorem set3_0 {w:World} {b t:Nat} {x y z v:Value} (h:w.heap[b]? = some (.cells #[x,y,z] t (0,0))):(w.setCell ⟨b,0,none⟩ v).heap[b]? = some (.cells #[v,y,z] t (0,0)):=by
 exact heap_setCell h
theorem set3_1 {w:World} {b t:Nat} {x y z v:Value} (h:w.heap[b]? = some (.cells #[x,y,z] t (0,0))):(w.setCell ⟨b,1,none⟩ v).heap[b]? = some (.cells #[x,v,z] t (0,0)):=by
 exact heap_setCell h
theorem set3_2 {w:World} {b t:Nat} {x y z v:Value} (h:w.heap[b]? = some (.cells #[x,y,z] t (0,0))):(w.setCell ⟨b,2,none⟩ v).heap[b]? = some (.cells #[x,y,v] t (0,0)):=by
 exact heap_setCell h
theorem putT3 {u:World} {b t:Nat} {x y z:Value} (h:u.heap[b]? = some (.cells #[x,y,z] t (0,0))) (v0 v1 v2:Value):(u.cell? ⟨b,0,none⟩ = some x ∧ u.frozen? ⟨b,0,none⟩ = false) ∧ ((u.setCell ⟨b,0,none⟩ v0).cell? ⟨b,1,none⟩ = some y ∧ (u.setCell ⟨b,0,none⟩ v0).frozen? ⟨b,1,none⟩ = false) ∧ (((u.setCell ⟨b,0,none⟩ v0).setCell ⟨b,1,none⟩ v1).cell? ⟨b,2,none⟩ = some z ∧ ((u.setCell ⟨b,0,none⟩ v0).setCell ⟨b,1,none⟩ v1).frozen? ⟨b,2,none⟩ = false) ∧ (((u.setCell ⟨b,0,none⟩ v0).setCell ⟨b,1,none⟩ v1).setCell ⟨b,2,none⟩ v2).cell? ⟨b,0,none⟩ = some v0 ∧ (((u.setCell ⟨b,0,none⟩ v0).setCell ⟨b,1,none⟩ v1).setCell ⟨b,2,none⟩ v2).cell? ⟨b,1,none⟩ = some v1 ∧ (((u.setCell ⟨b,0,none⟩ v0).setCell ⟨b,1,none⟩ v1).setCell ⟨b,2,none⟩ v2).cell? ⟨b,2,none⟩ = some v2:=by
 have s1:=set3_0 (v:=v0) h
 have s2:=set3_1 (v:=v1) s1
 have s3:=set3_2 (v:=v2) s2
 exact ⟨(cells3m h).1,(cells3m s1).2.1,(cells3m s2).2.2,(cells3m s3).1.1,(cells3m s3).2.1.1,(cells3m s3).2.2.1⟩
theorem extract_list (s:ByteArray) (a b:Nat):(s.extract a b).data.toList = (s.data.toList.drop a).take (b - a):=by
 rw [ByteArray.data_extract,Array.toList_extract,List.extract_eq_take_drop]
theorem strT_list' (s:ByteArray):strT s.data.toList = s:=by
 cases s
 simp [strT]
theorem strT_ext (s:Txt) (a n:Nat):(strT s).extract a (a + n) = strT ((s.drop a).take n):=by
 have h:=extract_list (strT s) a (a + n)
 rw [Nat.add_sub_cancel_left] at h
 rw [← strT_list' ((strT s).extract a (a + n)),h]
 rfl
end Go.Proofs.YtbpnioehmohbcaaGreat
namespace Go.Proofs.YtbpnioehmohbcaaGreat
def letB (c:Nat):Bool:=c == 95 || (decide (65 ≤ c) && decide (c ≤ 90)) || (decide (97 ≤ c) && decide (c ≤ 122))
def digB (c:Nat):Bool:=decide (48 ≤ c) && decide (c ≤ 57)
def blnB (c:Nat):Bool:=c == 9 || c == 10 || c == 13 || c == 32
def sgnB (c:Nat):Bool:=c == 58 || c == 59 || c == 124 || c == 37
def skL:Bool → Txt → Nat
 | _,[] => 0
 | true,c :: r => 1 + skL (c.toNat != 10) r
 | false,c :: r => if c.toNat = 35 then 1 + skL true r else if blnB c.toNat then 1 + skL false r else 0
def namL:Txt → Nat
 | [] => 0
 | c :: r => if letB c.toNat || digB c.toNat then 1 + namL r else 0
def rgL:Bool → Txt → Option Nat
 | _,[] => none
 | tk,c :: r => if c.toNat = 10 then none else if c.toNat = 47 ∧ tk = false then some 1 else (rgL (c.toNat == 92 && !tk) r).map (· + 1)
def endL:Txt → Option Nat
 | [] => none
 | c :: r => if sgnB c.toNat then some 1 else if letB c.toNat then (if 16 < namL (c :: r) then none else some (namL (c :: r))) else if c.toNat = 47 then (rgL false r).map (· + 1) else none
abbrev Wd:=Nat × Nat × Txt
def kndW (c:Nat):Nat:=if letB c then 1 else if c = 47 then 2 else 3
def wdOf (T:Txt) (a n:Nat):Wd:=(kndW ((T.drop a).headD 0).toNat,a,if ((T.drop a).headD 0).toNat = 47 then ((T.drop (a + 1)).take (n - 2)) else (T.drop a).take n)
def wrdR (T:Txt):Nat → Nat → List Wd → List Wd × Nat × Int
 | 0,_,l => (l,0,0)
 | f + 1,a,l => if T.length ≤ a then (l,0,0) else match endL (T.drop a) with
  | none => ([],a,1)
  | some n => wrdR T f (a + n + skL false (T.drop (a + n))) (l ++ [wdOf T a n])
def wrdA (T:Txt):List Wd × Nat × Int:=if 4000 < T.length then ([],0,3) else wrdR T T.length (skL false T) []
theorem skL_le:∀ (b:Bool) (u:Txt),skL b u ≤ u.length
 | _,[] => Nat.zero_le _
 | true,c :: r => by have:=skL_le (c.toNat != 10) r;rw [skL,List.length_cons];omega
 | false,c :: r => by
  have h1:=skL_le true r
  have h2:=skL_le false r
  rw [skL,List.length_cons]
  split
  · omega
  · split <;> omega
theorem namL_le:∀ u:Txt,namL u ≤ u.length
 | [] => Nat.zero_le _
 | c :: r => by
  have:=namL_le r
  rw [namL,List.length_cons]
  split <;> omega
theorem rgL_le:∀ (tk:Bool) (u:Txt) (n:Nat),rgL tk u = some n → 0 < n ∧ n ≤ u.length
 | _,[],n,h => by cases h
 | tk,c :: r,n,h => by
  rw [rgL] at h
  split at h
  · cases h
  · split at h
    · injection h with h
      rw [List.length_cons]
      omega
    · cases e:rgL (c.toNat == 92 && !tk) r with
      | none => rw [e] at h;cases h
      | some m =>
       rw [e] at h
       have h1:=rgL_le _ r m e
       have h:m + 1 = n:=by injection h
       rw [List.length_cons]
       omega
theorem endL_le {u:Txt} {n:Nat} (h:endL u = some n):0 < n ∧ n ≤ u.length:=by
 cases u with
 | nil => cases h
 | cons c r =>
  rw [endL] at h
  split at h
  · injection h with h
    rw [List.length_cons]
    omega
  · split at h
    · rename_i h1
      split at h
      · cases h
      · injection h with h
        have h2:=namL_le (c :: r)
        have h3:0 < namL (c :: r):=by rw [namL,h1];simp;omega
        omega
    · split at h
      · cases e:rgL false r with
        | none => rw [e] at h;cases h
        | some m =>
         rw [e] at h
         have h1:=rgL_le _ r m e
         have h:m + 1 = n:=by injection h
         rw [List.length_cons]
         omega
      · cases h
theorem endL_two {u:Txt} {n:Nat} (h:endL u = some n) (h47:(u.headD 0).toNat = 47):2 ≤ n:=by
 cases u with
 | nil => cases h
 | cons c r =>
  have h47:c.toNat = 47:=h47
  rw [endL,h47] at h
  rw [if_neg (by decide),if_neg (by decide),if_pos rfl] at h
  cases e:rgL false r with
  | none => rw [e] at h;cases h
  | some m =>
   rw [e] at h
   have h1:=rgL_le _ r m e
   have h:m + 1 = n:=by injection h
   omega
def WrdI (T:Txt) (a:Nat) (l:List Wd):Prop:=∃ f,T.length ≤ a + f ∧ wrdR T f a l = wrdR T T.length (skL false T) []
theorem WrdI.start (T:Txt):WrdI T (skL false T) []:=⟨T.length,by omega,rfl⟩
theorem WrdI.fin {T:Txt} {a:Nat} {l:List Wd} (h:WrdI T a l) (ha:T.length ≤ a):wrdR T T.length (skL false T) [] = (l,0,0):=by
 obtain ⟨f,-,h2⟩:=h
 rw [← h2]
 cases f with
 | zero => rfl
 | succ f => rw [wrdR,if_pos ha]
theorem WrdI.stop {T:Txt} {a:Nat} {l:List Wd} (h:WrdI T a l) (ha:a < T.length) (he:endL (T.drop a) = none):wrdR T T.length (skL false T) [] = ([],a,1):=by
 obtain ⟨f,h1,h2⟩:=h
 rw [← h2]
 cases f with
 | zero => omega
 | succ f => rw [wrdR,if_neg (by omega),he]
theorem WrdI.next {T:Txt} {a n:Nat} {l:List Wd} (h:WrdI T a l) (ha:a < T.length) (he:endL (T.drop a) = some n):WrdI T (a + n + skL false (T.drop (a + n))) (l ++ [wdOf T a n]):=by
 obtain ⟨f,h1,h2⟩:=h
 cases f with
 | zero => omega
 | succ f =>
  have h3:=endL_le he
  refine ⟨f,by omega,?_⟩
  rw [← h2,wrdR,if_neg (by omega),he]
end Go.Proofs.YtbpnioehmohbcaaGreat
