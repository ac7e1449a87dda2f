/- What the five laws of layer 17 share, part 10: no statement of its own. -/
import Derived.Test.YtjgedijclkoemaaGreatDoorJ9
import Derived.Deep.Draws
import Derived.Deep.QuietTactic
import Derived.Lib.OwnBridge
import Derived.Orders
import Derived.Shelf.Slices.In.SortNone
import Derived.Shelf.Slices.SearchI
import Derived.Shelf.Sort.Plain
namespace Go.Proofs.YtjgedijclkoemaaGreatDoor
open Go.RowKit Go.ChangeShapes Go.WideShapes Go.ChangeAt
set_option maxRecDepth 20000 in
theorem Tryz.info3:(Tryz.prog.info? 3).map (fun i=>(i.zero,i.size,i.bytes))=some (some (.int .i64 0),1,8):=by kernel_rfl
set_option maxRecDepth 20000 in
theorem Tryz.cells3:Tryz.prog.cellsOf 3=1:=by kernel_rfl
def k_ (l:List Int):List Value:=l.map fun n=>.int .i64 n
theorem a3j (l m:List Int):k_ (l++m)=k_ l++k_ m:=by unfold k_;rw [List.map_append]
theorem a0s (l:List Int):(k_ l).length=l.length:=by unfold k_;rw [List.length_map]
theorem a1a {l:List Int} {j:Nat} (h:j<l.length):(k_ l)[j]?=some (.int .i64 (l[j]'h)):=by unfold k_;rw [List.getElem?_map,List.getElem?_eq_getElem h];rfl
theorem a1u (l:List Int):∀ u∈k_ l,u.oneCell'=true:=fun u hu=>by
 unfold k_ at hu;obtain ⟨n,_,rfl⟩:=List.mem_map.1 hu;rfl
theorem q_ {B:Nat} {w u:World} {n:Nat} (h:Below B w u):Below B w (u.drewN n):=⟨h.os,h.tape,h.output,h.size,h.block⟩
theorem a5y {B:Nat} {w0 wr w2:World} {v:Value} {n:Nat} {xs:List Value} (hown:wr.ownsRow B 3 1 v n xs) (hbl:Below B w0 wr) (hB:B≤w0.heap.size) (hg:wr.grownBy w2 v.ownBlock):Below B w0 w2:=
 hbl.grown hg (by have:=hbl.size;omega) (fun k hk=>(hown.lt k hk).1)
def Nums (w:World) (v:Value) (l:List Int):Prop:=∃ a cap,v=.slice a l.length cap∧l.length≤cap∧(a=none→cap=0)∧∀ j (h:j<l.length),∃ b o,a=some ⟨b,o,none⟩∧b<w.heap.size∧w.cell? ⟨b,o+j,none⟩=some (.int .i64 l[j])
abbrev Own (w:World) (B:Nat) (v:Value) (l:List Int):Prop:=w.ownsRow B 3 1 v l.length (k_ l)
theorem Nums.of_row {w:World} {base:Nat} {v:Value} {l:List Int} (h:Own w base v l):Nums w v l:=by
 have h':=h;rcases h.2 with ⟨rfl,h0⟩ | ⟨g,cap,cur,rfl,_,_,hc,_⟩
 · exact ⟨none,0,by rw [h0],by omega,fun _=>rfl,fun j hj=>absurd hj (by omega)⟩
 · refine ⟨_,cap,rfl,hc,fun h=>(by cases h),fun j hj=>⟨g,0,rfl,(h'.lt g rfl).2,?_⟩⟩
   have:=h'.cells rfl j _ (a1a hj)
   by_cases h0:j=0
   · subst h0;simpa [Addr.add] using this
   · simpa [Addr.add,h0] using this
theorem Nums.keep {w w':World} {v:Value} {l:List Int} (h:Nums w v l) (hb:Below w.heap.size w w'):Nums w' v l:=by
 obtain ⟨a,cap,rfl,hcap,hnil,h⟩:=h;refine ⟨a,cap,rfl,hcap,hnil,fun j hj=>?_⟩;obtain ⟨b,o,ha,hlt,hc⟩:=h j hj;exact ⟨b,o,ha,Nat.lt_of_lt_of_le hlt hb.size,(hb.cell hlt).trans hc⟩
theorem Nums.nil (w:World):Nums w (.slice none 0 0) []:=⟨none,0,rfl,Nat.zero_le _,fun _=>rfl,fun _ h=>absurd h (Nat.not_lt_zero _)⟩
theorem Nums.at {w:World} {v:Value} {l:List Int} (h:Nums w v l) (h0:0<l.length):∃ b o cap,v=.slice (some ⟨b,o,none⟩) l.length cap∧l.length≤cap∧b<w.heap.size∧∀ j (hj:j<l.length),w.cell? ⟨b,o+j,none⟩=some (.int .i64 l[j]):=by
 obtain ⟨a,cap,rfl,hcap,_,hc⟩:=h;obtain ⟨b,o,rfl,hb,_⟩:=hc 0 h0;refine ⟨b,o,cap,rfl,hcap,hb,fun j hj=>?_⟩;obtain ⟨b',o',e,_,hcell⟩:=hc j hj;injection e with e;injection e with e1 e2;subst e1;subst e2
 exact hcell
theorem Nums.empty {w:World} {v:Value} (h:Nums w v []):v=.slice none 0 0∨∃ a cap,v=.slice (some a) 0 cap:=by
 obtain ⟨a,cap,rfl,_,hnil,_⟩:=h;cases a with
 | none=>exact Or.inl (by rw [hnil rfl];rfl)
 | some a=>exact Or.inr ⟨a,cap,rfl⟩
theorem Nums.news {w:World} {b o:Nat} {l:List Int} (h:∀ j (hj:j<l.length),w.cell? ⟨b,o+j,none⟩=some (.int .i64 l[j])):∀ j u,(k_ l)[j]?=some u→w.cell? ((⟨b,o,none⟩:Addr).add j)=some u:=fun j u hu=>by
 have hj:j<l.length:=by
  rcases Nat.lt_or_ge j l.length with h' | h'
  · exact h'
  · rw [List.getElem?_eq_none (by rw [a0s];exact h')] at hu;cases hu
 rw [a1a hj] at hu;injection hu with hu;subst hu;rw [Go.WideShapes.add_plain];exact h j hj
theorem a0o {w:World} {B B' n size:Nat} {e:TypeId} {v:Value} {xs:List Value} (h:w.ownsRow B e size v n xs) (hB:B'≤B):w.ownsRow B' e size v n xs:=by
 refine ⟨h.1,h.2.imp id ?_⟩;rintro ⟨g,cap,cur,rfl,h2,h3⟩;exact ⟨g,cap,cur,rfl,Nat.le_trans hB h2,h3⟩
theorem Own.lit3 (w:World) (a b c:Int):Own (w.alloc (.cells #[.int .i64 a,.int .i64 b,.int .i64 c] 3)) w.heap.size (.slice (some ⟨w.heap.size,0,none⟩) 3 3) [a,b,c]:=
 World.ownsRow_lit w #[.int .i64 a,.int .i64 b,.int .i64 c] 3 (Nat.le_refl _) (by unfold maxLen;omega) rfl
theorem Own.lit1 (w:World) (a:Int):Own (w.alloc (.cells #[.int .i64 a] 3)) w.heap.size (.slice (some ⟨w.heap.size,0,none⟩) 1 1) [a]:=
 World.ownsRow_lit w #[.int .i64 a] 1 (Nat.le_refl _) (by unfold maxLen;omega) rfl
end Go.Proofs.YtjgedijclkoemaaGreatDoor
namespace Go.Proofs.YtjgedijclkoemaaGreatDoor
open Go.RowKit
set_option maxRecDepth 20000 in
set_option maxHeartbeats 1000000 in
theorem b5S (va vb:Value) (la lb:List Int) (w:World) (hla:la.length≤9223372036854775807) (_:lb.length≤9223372036854775807) (hA:Nums w va la) (hB:Nums w vb lb) :
 Calls Tryz.prog 37 #[va,vb] w fun e w'=>e=.returned (.int .i64 (a2Z la lb))∧Below w.heap.size w w':=by
 obtain ⟨aa,ca,rfl,_,_,hA⟩:=hA;obtain ⟨ab,cb,rfl,_,_,hB⟩:=hB;go_enter Tryz.func37,Tryz.ntmps37
 go_wp2;go_loopw [5] (fun i wr=>∃ k:Nat,k≤la.length∧k≤lb.length∧i=.int .i64 k∧a2Z la lb=a2Z (la.drop k) (lb.drop k)∧Below w.heap.size w wr) (fun i _=>la.length - (intOf i).toNat)
 case atStart=>exact ⟨0,Nat.zero_le _,Nat.zero_le _,rfl,rfl,Below.refl _ w⟩
 case round =>
  obtain ⟨k,hk,hk2,rfl,htk,hbl⟩:=hrel;by_cases hlt:k<la.length
  · have hltz:(k:Int)<(la.length:Int):=by omega
    by_cases hlt2:k<lb.length
    · have hltz2:(k:Int)<(lb.length:Int):=by omega
      obtain ⟨b1,o1,rfl,hb1,hc1⟩:=hA k hlt;obtain ⟨b2,o2,rfl,hb2,hc2⟩:=hB k hlt2;have hd1:=(hbl.cell hb1).trans hc1;have hd2:=(hbl.cell hb2).trans hc2;rw [c0u hlt hlt2] at htk;clear hc1 hc2 hA hB;generalize la[k]=x at hd1 htk;generalize lb[k]=y at hd2 htk;by_cases h1:x<y
      · rw [if_pos h1] at htk
        go_wp2_with fail
        go_quiet (fail)
        go_wp2;go_ret;exact ⟨by first | rfl | (rw [htk];rfl),by first | exact q_ hbl | exact q_ (q_ hbl)⟩
      · rw [if_neg h1] at htk
        by_cases h2:y<x
        · rw [if_pos h2] at htk
          go_wp2_with fail
          go_quiet (fail)
          go_wp2_with fail
          go_quiet (fail)
          go_wp2;go_ret;exact ⟨by first | rfl | (rw [htk];rfl),by first | exact q_ hbl | exact q_ (q_ hbl)⟩
        · rw [if_neg h2] at htk
          have htk':=hid htk;clear htk;go_wp2_with fail
          go_quiet (fail)
          go_wp2_with fail
          go_quiet (fail)
          go_wp2;go_roundw
          case rel=>exact ⟨k+1,by omega,by omega,by go_num,htk'.out,by first | exact q_ hbl | exact q_ (q_ hbl)⟩
          case measure=>simp [intOf];omega
    · have hltz2:¬ (k:Int)<(lb.length:Int):=by omega
      have hz3:¬ (la.length:Int)<(lb.length:Int):=by omega
      have hz4:(lb.length:Int)<(la.length:Int):=by omega
      rw [b4H hlt hlt2] at htk;clear hA hB;go_wp2;go_ret;exact ⟨by first | rfl | (rw [htk];rfl),hbl⟩
  · obtain rfl:k=la.length:=by omega
    clear hA hB;by_cases hlt2:la.length<lb.length
    · have hltz2:(la.length:Int)<(lb.length:Int):=by omega
      rw [b4I hlt hlt2] at htk;go_wp2;go_ret;exact ⟨by first | rfl | (rw [htk];rfl),hbl⟩
    · rw [b7n hlt hlt2] at htk
      have hltz2:¬ (la.length:Int)<(lb.length:Int):=by omega
      have hz':¬ (lb.length:Int)<(la.length:Int):=by omega
      go_wp2;go_ret;exact ⟨by first | rfl | (rw [htk];rfl),hbl⟩
set_option maxRecDepth 20000 in
theorem a8D (va vb:Value) (la lb:List Int) (w:World) (hla:la.length≤9223372036854775807) (hlb:lb.length≤9223372036854775807) (hA:Nums w va la) (hB:Nums w vb lb) :
 Calls Tryz.prog 21 #[va,vb] w fun e w'=>e=.returned (.bool (decide (la=lb)))∧Below w.heap.size w w':=by
 have G:=hid (b5S va vb la lb w hla hlb hA hB);by_cases h:la=lb
 · have h0:=(a4u la lb).2 h
   rw [h0] at G;rw [decide_eq_true h];clear h h0 hA hB;go_enter Tryz.func21,Tryz.ntmps21
   go_wp2_with (go_at_call 37;refine (G.out).mono ?_;rintro e w1 ⟨rfl,hb⟩)
   go_ret;exact ⟨rfl,hb⟩
 · have h0:(a2Z la lb == 0)=false:=beq_eq_false_iff_ne.2 fun e=>h ((a4u la lb).1 e)
   rw [decide_eq_false h];generalize a2Z la lb=c at G h0;clear h hA hB;go_enter Tryz.func21,Tryz.ntmps21
   go_wp2_with (go_at_call 37;refine (G.out).mono ?_;rintro e w1 ⟨rfl,hb⟩)
   go_ret;exact ⟨rfl,hb⟩
theorem Nums.parts {w:World} {v:Value} {l:List Int} (h:Nums w v l):(v=.slice none 0 0∧l=[])∨∃ ad cap,v=.slice (some ad) l.length cap∧∀ j u,(k_ l)[j]?=some u→w.cell? (ad.add j)=some u:=by
 by_cases h0:l=[]
 · subst h0
   rcases h.empty with rfl | ⟨a,cap,rfl⟩
   · exact Or.inl ⟨rfl,rfl⟩
   · exact Or.inr ⟨a,cap,rfl,fun j u hu=>by simp [k_] at hu⟩
 · obtain ⟨b,o,cap,rfl,hcap,hb,hc⟩:=h.at (List.length_pos_iff.2 h0)
   exact Or.inr ⟨_,cap,rfl,Nums.news hc⟩
set_option maxRecDepth 20000 in
theorem a9l {ops:Array Oper} {rest:List Oper} {o:Oper} {a:Act} {Q:Exit→Act→World→Prop} (w:World) (hgd:o.guard=none) (s x:Operand)
 (ho:o.op=.call { callee:=.builtin .append,args:=#[s,x],argTypes:=#[41,41] })
 (B:Nat) (l1 l2:List Int) (v vx:Value) (hs:a.eval s=v) (hx:a.eval x=vx) (hown:Own w B v l1) (hN:Nums w vx l2) (hl:l1.length+l2.length≤4000000) (hB:B≤w.heap.size)
 (h:∀ v' w',Own w' B v' (l1++l2)→Below B w w'→wpList Tryz.prog ops Q rest (a.put o.dst v') w'):wpList Tryz.prog ops Q (o :: rest) a w:=by
 obtain ⟨i0,hi,hz0,hz1,hz2⟩:=info_parts Tryz.info3;rcases hN.parts with ⟨rfl,rfl⟩ | ⟨ad,cap,rfl,hnews⟩
 · refine wpList_append_own_none hgd s x 41 ho B 3 i0 1 Tryz.underlying41 hi v _ _ hs hown hx ?_
   rw [List.append_nil] at h;exact h v w hown ((Below.refl _ w).mono hB)
 · refine wpList_append_own w hgd s x 41 ho B 3 i0 (.int .i64 0) 1 8 Tryz.underlying41 hi hz0 hz1 hz2 rfl (by decide) v _ _ hs hown ad l2.length cap (k_ l2) hx (by rw [a0s];omega) hnews (a1u l2) (by unfold maxLen;omega) (by omega) hB ?_
   intro v' w' hO hg _;refine h v' w' ?_ (a5y hown ((Below.refl _ w).mono hB) hB hg);unfold Own;rw [a3j,List.length_append];exact hO
theorem Own.lit0 (w:World):Own (w.alloc (.cells #[] 3)) w.heap.size (.slice (some ⟨w.heap.size,0,none⟩) 0 0) []:=
 World.ownsRow_lit w #[] 0 (Nat.le_refl _) (by unfold maxLen;omega) rfl
end Go.Proofs.YtjgedijclkoemaaGreatDoor
namespace Go.Proofs
open Go.Shelf
def Tryz.laysM176_ren:Go.Shelf.Ren:=⟨fun | 176=>71 | 249=>97 | 288=>146 | 283=>153 | 284=>154 | 285=>155 | 286=>156 | 129=>115 | 317=>186 | 318=>187 | 319=>188 | 320=>189 | 337=>201 | 338=>202 | n=>n,fun | 37=>137 | 2=>2 | 3=>3 | 53=>163 | 4=>4 | 9=>9 | 171=>206 | 0=>0 | 173=>208 | 212=>228 | 51=>94 | 5=>5 | 20=>20 | 213=>229 | 46=>139 | 232=>252 | 233=>253 | n=>n,fun | 17=>0 | 18=>2 | 19=>3 | n=>n⟩
theorem Tryz.laysM176:Go.Proofs.LaysM.n176 Tryz.prog Tryz.laysM176_ren:={
 mixed:=by kernel_rfl
 f129:=Tryz.func115.trans (congrArg some (by kernel_rfl))
 f176:=Tryz.func71.trans (congrArg some (by kernel_rfl))
 f249:=Tryz.func97.trans (congrArg some (by kernel_rfl))
 f283:=Tryz.func153.trans (congrArg some (by kernel_rfl))
 f284:=Tryz.func154.trans (congrArg some (by kernel_rfl))
 f285:=Tryz.func155.trans (congrArg some (by kernel_rfl))
 f286:=Tryz.func156.trans (congrArg some (by kernel_rfl))
 f288:=Tryz.func146.trans (congrArg some (by kernel_rfl))
 f317:=Tryz.func186.trans (congrArg some (by kernel_rfl))
 f318:=Tryz.func187.trans (congrArg some (by kernel_rfl))
 f319:=Tryz.func188.trans (congrArg some (by kernel_rfl))
 f320:=Tryz.func189.trans (congrArg some (by kernel_rfl))
 f337:=Tryz.func201.trans (congrArg some (by kernel_rfl))
 f338:=Tryz.func202.trans (congrArg some (by kernel_rfl))
 t0:=Tryz.underlying0
 a0:=Tryz.isAgg0
 z0:=Tryz.sizeOf0
 v0:=Tryz.zeroValue0
 t2:=Tryz.underlying2
 a2:=Tryz.isAgg2
 z2:=Tryz.sizeOf2
 v2:=Tryz.zeroValue2
 t3:=Tryz.underlying3
 a3:=Tryz.isAgg3
 z3:=Tryz.sizeOf3
 v3:=Tryz.zeroValue3
 t4:=Tryz.underlying4
 a4:=Tryz.isAgg4
 z4:=Tryz.sizeOf4
 v4:=Tryz.zeroValue4
 t5:=Tryz.underlying5
 a5:=Tryz.isAgg5
 z5:=Tryz.sizeOf5
 v5:=Tryz.zeroValue5
 t9:=Tryz.underlying9
 a9:=Tryz.isAgg9
 z9:=Tryz.sizeOf9
 v9:=Tryz.zeroValue9
 t20:=Tryz.underlying20
 a20:=Tryz.isAgg20
 z20:=Tryz.sizeOf20
 v20:=Tryz.zeroValue20
 t37:=Tryz.underlying137
 a37:=Tryz.isAgg137
 z37:=Tryz.sizeOf137
 v37:=Tryz.zeroValue137
 t46:=Tryz.underlying139
 a46:=Tryz.isAgg139
 z46:=Tryz.sizeOf139
 v46:=Tryz.zeroValue139
 t51:=Tryz.underlying94
 a51:=Tryz.isAgg94
 z51:=Tryz.sizeOf94
 v51:=Tryz.zeroValue94
 t53:=Tryz.underlying163
 a53:=Tryz.isAgg163
 z53:=Tryz.sizeOf163
 v53:=Tryz.zeroValue163
 t171:=Tryz.underlying206
 a171:=Tryz.isAgg206
 z171:=Tryz.sizeOf206
 v171:=Tryz.zeroValue206
 t173:=Tryz.underlying208
 a173:=Tryz.isAgg208
 z173:=Tryz.sizeOf208
 v173:=Tryz.zeroValue208
 t212:=Tryz.underlying228
 a212:=Tryz.isAgg228
 z212:=Tryz.sizeOf228
 v212:=Tryz.zeroValue228
 t213:=Tryz.underlying229
 a213:=Tryz.isAgg229
 z213:=Tryz.sizeOf229
 t232:=Tryz.underlying252
 a232:=Tryz.isAgg252
 z232:=Tryz.sizeOf252
 v232:=Tryz.zeroValue252
 t233:=Tryz.underlying253
 a233:=Tryz.isAgg253
 z233:=Tryz.sizeOf253
 v233:=Tryz.zeroValue253
 g17:=by kernel_rfl
 g18:=by kernel_rfl
 g19:=by kernel_rfl
 i0:=by kernel_rfl
 i2:=by kernel_rfl
 i3:=by kernel_rfl
 i4:=by kernel_rfl
 i5:=by kernel_rfl
 i9:=by kernel_rfl
 i20:=by kernel_rfl
 i37:=by kernel_rfl
 i46:=by kernel_rfl
 i51:=by kernel_rfl
 i53:=by kernel_rfl
 i171:=by kernel_rfl
 i173:=by kernel_rfl
 i212:=by kernel_rfl
 i232:=by kernel_rfl
 i233:=by kernel_rfl
 m17:=by kernel_rfl
 m18:=by kernel_rfl
 m19:=by kernel_rfl }
open Go.RowKit Go.Sort Go.Lib in
theorem Tryz.strconv_AppendInt_10 (B n : Nat) (i : Int) (h0 : -9223372036854775808 ≤ i) (h1 : i ≤ 9223372036854775807) (sv : Value) (xs : List Value) (w : World) (hown : w.ownsRow B 5 1 sv n xs) (hBw : B ≤ w.heap.size) (hlim : n + 21 ≤ 140737488355328) (htab : Lib.TabBelow Tryz.prog B w "internal/strconv.uint64pow10" .u64 Lib.pow10Tab) :
 Calls Tryz.prog 71 #[sv,.int .i64 i,.int .i64 10] w fun e w'=>∃ v',e=.returned v'∧w'.ownsRow B 5 1 v' (n+(Lib.itoa i).length) (xs++Lib.byteCells (Lib.itoa i))∧Below B w w'∧Lib.OthersKept 5 none w w':=Any.strconv_AppendInt_10 Tryz.laysM176 B n i h0 h1 sv xs w hown hBw hlim htab
def Tryz.lays212_ren:Go.Shelf.Ren:=⟨fun | 212=>72 | 263=>98 | 264=>99 | n=>n,fun | 46=>139 | 51=>94 | 146=>161 | 53=>163 | 148=>164 | n=>n,fun | n=>n⟩
theorem Tryz.lays212:Go.Proofs.Lays.n212 Tryz.prog Tryz.lays212_ren:={
 mixed:=by kernel_rfl
 f212:=Tryz.func72.trans (congrArg some (by kernel_rfl))
 f263:=Tryz.func98.trans (congrArg some (by kernel_rfl))
 f264:=Tryz.func99.trans (congrArg some (by kernel_rfl))
 t46:=Tryz.underlying139
 a46:=Tryz.isAgg139
 z46:=Tryz.sizeOf139
 v46:=Tryz.zeroValue139
 t51:=Tryz.underlying94
 a51:=Tryz.isAgg94
 z51:=Tryz.sizeOf94
 v51:=Tryz.zeroValue94
 t53:=Tryz.underlying163
 a53:=Tryz.isAgg163
 z53:=Tryz.sizeOf163
 v53:=Tryz.zeroValue163
 t146:=Tryz.underlying161
 a146:=Tryz.isAgg161
 z146:=Tryz.sizeOf161
 v146:=Tryz.zeroValue161
 t148:=Tryz.underlying164
 a148:=Tryz.isAgg164
 z148:=Tryz.sizeOf164
 v148:=Tryz.zeroValue164 }
open Go.RowKit Go.Lib in
theorem Tryz.bits_Mul (x y:Nat) (hx:x<18446744073709551616) (hy:y<18446744073709551616) (w:World) :
 Calls Tryz.prog 72 #[.int .u64 x,.int .u64 y] w fun e w'=>e=.returned (.tuple #[.int .u64 ((x * y / 18446744073709551616:Nat):Int),.int .u64 ((x * y % 18446744073709551616:Nat):Int)])∧w'=w:=Any.bits_Mul Tryz.lays212 x y hx hy w
end Go.Proofs
namespace Go.Proofs.YtjgedijclkoemaaGreatDoor
open Go
def a2m:List Oper→Nat→(Nat→Value)→Act→Act
 | [],_,_,a=>a
 | o :: os,i,xs,a=>a2m os (i+1) xs (a.put o.dst (xs i))
def a3m (Ob:Nat→Oper→Prop):Nat→List Oper→Prop
 | _,[]=>True
 | i,o :: os=>Ob i o∧a3m Ob (i+1) os
theorem h_ {Ob:Nat→Oper→Prop} {i:Nat} {o:Oper} {os:List Oper} (h:Ob i o) (h2:a3m Ob (i+1) os):a3m Ob i (o :: os):=⟨h,h2⟩
theorem a2l {Ob:Nat→Oper→Prop} {i:Nat}:a3m Ob i []:=trivial
def rgB (ops:List Oper):Bool:=(List.range ops.length).all fun i=>match ops[i]? with
 | none=>true
 | some o=>(o.after.all fun e=>!Region.binds .any e || decide (e.on<i)) && match o.dst with
  | none=>true
  | some d=>(List.range ops.length).all fun j=>decide (i=j) || ((ops[j]?).bind (·.dst)) != some d
theorem a9G {Ob:Nat→Oper→Prop}:∀ (l:List Oper) (k:Nat),a3m Ob k l→∀ i o,l[i]?=some o→Ob (k+i) o
 | [],_,_,i,o,h=>by simp at h
 | x :: l,k,h,0,o,e=>by
  have e:x=o:=by simpa using e
  subst e;exact h.1
 | x :: l,k,h,i+1,o,e=>by
  have:=a9G l (k+1) h.2 i o (by simpa using e)
  rw [show k+(i+1)=k+1+i by omega];exact this
theorem b5W (a:Act) (d:Option Tmp) (x y:Value):(a.put d x).put d y=a.put d y:=by
 cases d with
 | none=>rfl
 | some d=>simp [Act.put]
def b7J (xs:Nat→Value) (i:Nat) (v:Value):Nat→Value:=fun j=>if j=i then v else xs j
theorem b1Z (xs:Nat→Value) (i:Nat) (v:Value):b7J xs i v i=v:=if_pos rfl
theorem a8s (xs:Nat→Value) {i j:Nat} (v:Value) (h:j≠i):b7J xs i v j=xs j:=if_neg h
theorem a9M (d:Option Tmp) (v:Value):∀ (l:List Oper) (k:Nat) (xs:Nat→Value) (a:Act),(∀ o∈l,∀ t,d=some t→o.dst≠some t)→(a2m l k xs a).put d v=a2m l k xs (a.put d v)
 | [],_,_,_,_=>rfl
 | o :: l,k,xs,a,h=>by
  show (a2m l (k+1) xs (a.put o.dst (xs k))).put d v=a2m l (k+1) xs ((a.put d v).put o.dst (xs k))
  rw [a9M d v l (k+1) xs _ (fun o ho=>h o (List.mem_cons_of_mem _ ho)),Act.put_comm a v (xs k) (h o List.mem_cons_self)]
theorem a5f:∀ (l:List Oper) (k:Nat) (xs ys:Nat→Value) (a:Act),(∀ j,k≤j→xs j=ys j)→a2m l k xs a=a2m l k ys a
 | [],_,_,_,_,_=>rfl
 | o :: l,k,xs,ys,a,h=>by
  show a2m l (k+1) xs (a.put o.dst (xs k))=a2m l (k+1) ys (a.put o.dst (ys k))
  rw [h k (Nat.le_refl _)];exact a5f l (k+1) xs ys _ (fun j hj=>h j (by omega))
theorem a9L (v:Value):∀ (l:List Oper) (k i:Nat) (xs:Nat→Value) (a:Act) (o:Oper),l[i]?=some o→(∀ j x,j≠i→l[j]?=some x→∀ t,o.dst=some t→x.dst≠some t) →
 a2m l k (b7J xs (k+i) v) a=(a2m l k xs a).put o.dst v
 | [],_,i,_,_,_,h,_=>by simp at h
 | x :: l,k,0,xs,a,o,e,h=>by
  have e:x=o:=by simpa using e
  subst e
  show a2m l (k+1) (b7J xs (k+0) v) (a.put x.dst (b7J xs (k+0) v k))=(a2m l (k+1) xs (a.put x.dst (xs k))).put x.dst v
  rw [a9M x.dst v l (k+1) xs _ (fun o ho t ht=>by
   obtain ⟨j,hj,rfl⟩:=List.getElem_of_mem ho;exact h (j+1) _ (by omega) (by simp [hj]) t ht),b5W]
  have e1:b7J xs (k+0) v k=v:=b1Z xs k v;rw [e1];exact a5f l (k+1) _ _ _ (fun j hj=>a8s xs v (by omega))
 | x :: l,k,i+1,xs,a,o,e,h=>by
  have e:l[i]?=some o:=by simpa using e
  show a2m l (k+1) (b7J xs (k+(i+1)) v) (a.put x.dst (b7J xs (k+(i+1)) v k))=(a2m l (k+1) xs (a.put x.dst (xs k))).put o.dst v
  rw [a8s xs v (show k≠k+(i+1) by omega),show k+(i+1)=k+1+i by omega];exact a9L v l (k+1) i xs _ o e (fun j x hj hx=>h (j+1) x (by omega) (by simpa using hx))
theorem a7p (a:Act):∀ (l:List Oper) (k:Nat) (xs:Nat→Value),(∀ i o,l[i]?=some o→∀ d,o.dst=some d→xs (k+i)=a.tmps.getD d undef)→a2m l k xs a=a
 | [],_,_,_=>rfl
 | o :: l,k,xs,h=>by
  have e:a.put o.dst (xs k)=a:=by
   have h0:=h 0 o rfl;cases hd:o.dst with
   | none=>rfl
   | some d =>
    have h1:xs k=a.tmps.getD d undef:=h0 d hd;rw [h1];unfold Act.put;have hy:∀ hlt:d<a.tmps.size,a.tmps.getD d undef=a.tmps[d]:=fun hlt=>by rw [Array.getD_eq_getD_getElem?,Array.getElem?_eq_getElem hlt,Option.getD_some]
    generalize a.tmps.getD d undef=y at hy
    have:a.tmps.setIfInBounds d y=a.tmps:=by
     apply Array.ext_getElem?
     intro j;rw [Array.getElem?_setIfInBounds];by_cases e:d=j
     · subst e
       rw [if_pos rfl];by_cases hlt:d<a.tmps.size
       · rw [if_pos hlt,hy hlt,Array.getElem?_eq_getElem hlt]
       · rw [if_neg hlt,Array.getElem?_eq_none (Nat.le_of_not_lt hlt)]
     · rw [if_neg e]
    simp only [this]
  show a2m l (k+1) xs (a.put o.dst (xs k))=a
  rw [e]
  exact a7p a l (k+1) xs (fun i o ho d hd=>by
   have:=h (i+1) o (by simpa using ho) d hd
   rw [show k+1+i=k+(i+1) by omega];exact this)
section
variable {P:Program} {Q:Exit→Act→World→Prop} {G:Type}
def c3f (P:Program) (Q:Exit→Act→World→Prop) (I:G→World→Prop) (Φ:Nat→G→World→Value→Prop) (use:Nat→Option Nat) (l:List Oper) (A:(Nat→Value)→Act) (i:Nat) (o:Oper):Prop:=
 ∀ (xs:Nat→Value) (γ:G) (w:World),I γ w→(∀ e∈o.after.toList,Region.binds .any e=true→(use e.on=none∨use e.on=some i)→Φ e.on γ w (xs e.on)) →
  ∀ K:Act→World→Prop,(∀ v γ' w',I γ' w'→Φ i γ' w' v→(∀ j u,j≠i→use j≠some i→Φ j γ w u→Φ j γ' w' u)→K ((A xs).put o.dst v) w') →
   if Region.wanted o (yielded l.toArray (A xs).tmps)=true then o.wp P (A xs) w K Q else K ((A xs).put o.dst undef) w
theorem c1u (I:G→World→Prop) (Φ:Nat→G→World→Value→Prop) (use:Nat→Option Nat) (l:List Oper) (a0:Act) (hB:rgB l=true)
 (hop:∀ i o,l[i]?=some o→c3f P Q I Φ use l (fun xs=>a2m l 0 xs a0) i o)
 (hfin:∀ xs γ w,I γ w→(∀ i,i<l.length→(∀ k,use i=some k→l.length≤k)→Φ i γ w (xs i))→Q .normal (a2m l 0 xs a0) w) :
 ∀ (a1M:Nat) (listed:Array Bool) (xs:Nat→Value) (γ:G) (w:World),listed.size=l.length→((List.range l.length).filter fun i=>!listed.getD i true).length≤a1M→I γ w→(∀ i,i<l.length→listed.getD i true=true→(∀ k,use i=some k→k<l.length→listed.getD k true=false)→Φ i γ w (xs i)) →
  wpAny P .any l.toArray Q a1M listed (a2m l 0 xs a0) w:=by
 have hdn:∀ i o,l[i]?=some o→(∀ e∈o.after.toList,Region.binds .any e=true→e.on<i)∧∀ t,o.dst=some t→∀ j x,j≠i→l[j]?=some x→x.dst≠some t:=by
  intro i o ho;have hi:i<l.length:=(List.getElem?_eq_some_iff.1 ho).1;unfold rgB at hB;rw [List.all_eq_true] at hB;have h:=hB i (List.mem_range.2 hi);rw [ho] at h;simp only [Bool.and_eq_true] at h;refine ⟨fun e he hb=>?_,fun t ht j x hj hx hxt=>?_⟩
  · have h1:=h.1
    rw [Array.all_eq_true'] at h1
    have:=h1 e (Array.mem_toList_iff.1 he)
    rw [hb] at this;simpa using this
  · have h2:=h.2
    rw [ht] at h2;simp only [List.all_eq_true] at h2;have hjl:j<l.length:=(List.getElem?_eq_some_iff.1 hx).1
    have:=h2 j (List.mem_range.2 hjl)
    rw [hx] at this;simp [hxt] at this
    exact hj this.symm
 have hall:∀ (listed:Array Bool),listed.size=l.length→Region.ready .any l.toArray listed=[]→∀ i,i<l.length→listed.getD i true=true:=by
  intro listed hsz hr i
  induction i using Nat.strongRecOn with
  | ind i ih =>
   intro hi;cases hl:listed.getD i true with
   | true=>rfl
   | false =>
    exfalso
    have hm:i∈Region.ready .any l.toArray listed:=by
     unfold Region.ready;rw [List.mem_filter];refine ⟨by simpa using hi,?_⟩;have ho:l.toArray[i]?=some l[i]:=by simp [hi]
     rw [hl,ho];simp only [Bool.not_false,Bool.true_and,Option.map_some,Option.getD_some];rw [Array.all_eq_true'];intro e he;cases hb:Region.binds .any e with
     | false=>rfl
     | true =>
      have hlt:=(hdn i l[i] (List.getElem?_eq_getElem hi)).1 e (Array.mem_toList_iff.2 he) hb
      have:=ih e.on hlt (by omega)
      have hs:e.on<listed.size:=by omega
      rw [Array.getD_eq_getD_getElem?,Array.getElem?_eq_getElem hs,Option.getD_some] at this;rw [Array.getD_eq_getD_getElem?,Array.getElem?_eq_getElem hs,Option.getD_some,this];rfl
    rw [hr] at hm;cases hm
 intro a1M
 induction a1M with
 | zero =>
  intro listed xs γ w hsz hc hI hΦ
  have hl:∀ i,i<l.length→listed.getD i true=true:=by
   intro i hi;have h0:((List.range l.length).filter fun i=>!listed.getD i true)=[]:=List.eq_nil_of_length_eq_zero (by omega);rw [List.filter_eq_nil_iff] at h0
   have:=h0 i (List.mem_range.2 hi)
   simpa using this
  refine ⟨?_,hfin xs γ w hI (fun i hi hu=>hΦ i hi (hl i hi) (fun k hk hkl=>absurd hkl (by have:=hu k hk;omega)))⟩;unfold Region.ready;rw [List.filter_eq_nil_iff];intro i hi;have hi:i<l.length:=by simpa using hi
  rw [hl i hi];simp
 | succ a1M ih =>
  intro listed xs γ w hsz hc hI hΦ;refine ⟨fun hr=>hfin xs γ w hI (fun i hi hu=>hΦ i hi (hall listed hsz hr i hi) (fun k hk hkl=>absurd hkl (by have:=hu k hk;omega))),fun i hi=>?_⟩;unfold Region.ready at hi;rw [List.mem_filter] at hi;obtain ⟨hi1,hi2⟩:=hi;have hil:i<l.length:=by simpa using hi1
  have ho:l[i]?=some l[i]:=List.getElem?_eq_getElem hil;have hoa:l.toArray[i]?=some l[i]:=by simp [hil]
  rw [hoa] at hi2;simp only [Option.map_some,Option.getD_some,Bool.and_eq_true] at hi2;obtain ⟨hun,hed⟩:=hi2;have hun:listed.getD i true=false:=by simpa using hun
  rw [Array.all_eq_true'] at hed
  have hdep:∀ e∈l[i].after.toList,Region.binds .any e=true→(use e.on=none∨use e.on=some i)→Φ e.on γ w (xs e.on):=by
   intro e he hb hus;have hlt:=(hdn i l[i] ho).1 e he hb;have h1:=hed e (Array.mem_toList_iff.1 he);rw [hb] at h1;have hs:e.on<listed.size:=by omega
   refine hΦ e.on (by omega) ?_ (fun k hk hkl=>?_)
   · rw [Array.getD_eq_getD_getElem?,Array.getElem?_eq_getElem hs,Option.getD_some] at h1 ⊢
     simpa using h1
   · rcases hus with h | h
     · rw [h] at hk;cases hk
     · rw [h] at hk
       injection hk with hk;subst hk;exact hun
  have hnext:∀ v γ' w',I γ' w'→Φ i γ' w' v→(∀ j u,j≠i→use j≠some i→Φ j γ w u→Φ j γ' w' u)→wpAny P .any l.toArray Q a1M (listed.setIfInBounds i true) ((a2m l 0 xs a0).put l[i].dst v) w':=by
   intro v γ' w' hI' hv hp;rw [← a9L v l 0 i xs a0 l[i] ho (fun j x hj hx t ht=>(hdn i l[i] ho).2 t ht j x hj hx),Nat.zero_add];refine ih _ _ γ' w' (by simp [hsz]) ?_ hI' (fun j hj hl hcon=>?_)
   · have hsub:((List.range l.length).filter fun j=>!(listed.setIfInBounds i true).getD j true)=((List.range l.length).filter fun j=>!listed.getD j true).filter fun j=>decide (j≠i):=by
      rw [List.filter_filter];refine List.filter_congr fun j hj=>?_
      have hj:j<l.length:=List.mem_range.1 hj;rw [Array.getD_eq_getD_getElem?,Array.getElem?_setIfInBounds];by_cases e:i=j
      · subst e
        simp [hsz,hil]
      · have e':j≠i:=fun h=>e h.symm
        simp [e,e',Array.getD_eq_getD_getElem?]
     rw [hsub]
     have hmem:i∈((List.range l.length).filter fun j=>!listed.getD j true):=by
      rw [List.mem_filter];exact ⟨List.mem_range.2 hil,by rw [hun];rfl⟩
     have:(((List.range l.length).filter fun j=>!listed.getD j true).filter fun j=>decide (j≠i)).length<((List.range l.length).filter fun j=>!listed.getD j true).length:=List.length_filter_lt_length_iff_exists.2 ⟨i,hmem,by simp⟩
     omega
   · by_cases e:j=i
     · subst e
       rw [b1Z];exact hv
     · rw [a8s xs v e]
       have hkeep:∀ k,k≠i→(listed.setIfInBounds i true).getD k true=listed.getD k true:=fun k hk=>by
        rw [Array.getD_eq_getD_getElem?,Array.getElem?_setIfInBounds,if_neg (fun h=>hk h.symm),← Array.getD_eq_getD_getElem?]
       have hne:use j≠some i:=fun h=>by
        have:=hcon i h hil
        rw [Array.getD_eq_getD_getElem?,Array.getElem?_setIfInBounds,if_pos rfl,if_pos (by omega)] at this;cases this
       refine hp j (xs j) e hne (hΦ j hj ?_ (fun k hk hkl=>?_))
       · rw [hkeep j e] at hl
         exact hl
       · have h1:=hcon k hk hkl
         rw [hkeep k (fun e=>hne (by rw [hk,e]))] at h1;exact h1
  have h:=hop i l[i] ho xs γ w hI hdep _ hnext;unfold wpOp;rw [hoa]
  show if Region.wanted l[i] (yielded l.toArray (a2m l 0 xs a0).tmps)=true then _ else _
  split
  · rename_i hw
    rw [if_pos hw] at h;exact .inl h
  · rename_i hw
    rw [if_neg hw] at h;exact h
theorem a3d (I:G→World→Prop) (Φ:Nat→G→World→Value→Prop) (use:Nat→Option Nat) (γ0:G) {A:(Nat→Value)→Act} {id:Nat} {l:List Oper} {a0:Act} {w0:World} (hm:P.follows .mixedOrders=true) (hB:rgB l=true)
 (hA:∀ xs,a2m l 0 xs a0=A xs) (h0:I γ0 w0.drew) (hop:a3m (c3f P Q I Φ use l A) 0 l)
 (hfin:∀ xs γ w,I γ w→(∀ i,i<l.length→(∀ k,use i=some k→l.length≤k)→Φ i γ w (xs i))→Q .normal (A xs) w):(Code.region id l.toArray true).wp P Q a0 w0:=by
 refine wp_region_any hm ?_
 have h:=c1u I Φ use l a0 hB (fun i o ho=>by
  have:=a9G l 0 hop i o ho
  rw [Nat.zero_add] at this;intro xs γ w hI hd K hK
  have h2:=this xs γ w hI hd K (fun v γ' w' h1 h2 h3=>by
   rw [← hA xs];exact hK v γ' w' h1 h2 h3)
  rw [← hA xs] at h2
  exact h2) (fun xs γ w h1 h2=>by rw [hA xs];exact hfin xs γ w h1 h2) l.toArray.size (Array.replicate l.toArray.size false) (fun i=>a0.tmps.getD (((l[i]?).bind (·.dst)).getD 0) undef) γ0 w0.drew (by simp) (Nat.le_trans (List.length_filter_le _ _) (by simp)) h0 (fun i hi hl=>by
   exfalso
   simp [Array.getD_eq_getD_getElem?,hi] at hl)
 rw [a7p a0 l 0 _ (fun i o ho d hd=>by
  show a0.tmps.getD (((l[0+i]?).bind (·.dst)).getD 0) undef=_
  rw [Nat.zero_add,ho]
  show a0.tmps.getD ((o.dst).getD 0) undef=_
  rw [hd];rfl)] at h
 exact h
end
end Go.Proofs.YtjgedijclkoemaaGreatDoor
