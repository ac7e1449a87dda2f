/- What AutoMaps alone needs of layer 17: no statement of its own. -/
import Derived.Test.YtjgedijclkoemaaGreatDoorJ41
import Derived.LoopIn
import Derived.LoopNIn
import Derived.OwnWalkIn
import Derived.RangeFuncBound
import Derived.RangeFuncCalls
import Derived.RangeFuncLeaves
import Derived.RangeFuncNested
import Derived.RangeFuncWrites
import Derived.Shelf.Abstract
import Derived.Shelf.RegionOpen
import Derived.TacticsInMore
namespace Go.Proofs.YtjgedijclkoemaaGreatDoor
open Go.RowKit
theorem a0b (s t:Txt):e_ s++e_ t=e_ (s++t):=by
 apply ByteArray.ext
 rw [ByteArray.data_append];simp [e_]
set_option maxRecDepth 20000 in
theorem a0y (a b:ByteArray) (w:World) (h:a.size+b.size≤1000000000):(Op.stringOp .add a b).run Tryz.prog w=.ok (.string (a++b)) w:=by
 have:a.size+b.size≤maxLen:=by unfold maxLen;omega
 simp [Op.stringOp]
 omega
theorem a8H {b:Nat} (h:b<256):(UInt8.ofNat b).toNat=b:=by
 rw [UInt8.toNat_ofNat'];exact Nat.mod_eq_of_lt h
end Go.Proofs.YtjgedijclkoemaaGreatDoor
namespace Go.Proofs.YtjgedijclkoemaaGreatDoor
open Go.RowKit Go.ChangeShapes Go.WideShapes Go.ChangeAt
theorem Nums.getD {w:World} {b o:Nat} {l:List Int} (h:∀ j (hj:j<l.length),w.cell? ⟨b,o+j,none⟩=some (.int .i64 l[j])):∀ j,j<l.length→w.cell? ⟨b,o+j,none⟩=some (.int .i64 (l.getD j 0)):=fun j hj=>by
 rw [h j hj,List.getD_eq_getElem?_getD,List.getElem?_eq_getElem hj];rfl
end Go.Proofs.YtjgedijclkoemaaGreatDoor
namespace Go.Proofs.YtjgedijclkoemaaGreatDoor
open Go.ChangeShapes Go.WideShapes Go.ChangeAt Go.RowKit Go.Sort Go.Maps Go.Lib
theorem b4N {w:World} {b:Nat} {x0 x1:Value} {T:TypeId} (h:w.heap[b]?=some (.cells #[x0,x1] T (0,0))):w.cell? ⟨b,0,none⟩=some x0∧w.cell? ⟨b,1,none⟩=some x1∧w.frozen? ⟨b,0,none⟩=false∧w.frozen? ⟨b,1,none⟩=false:=
 ⟨c_ h rfl,c_ h rfl,i_ h 0,i_ h 1⟩
end Go.Proofs.YtjgedijclkoemaaGreatDoor
namespace Go.Proofs.YtjgedijclkoemaaGreatDoor
open Go.RowKit Go.Maps
set_option maxRecDepth 20000 in
theorem c0Z:(Tryz.prog.info? 5).map (fun i=>(i.zero,i.size,i.bytes))=some (some (.int .u8 0),1,1):=by kernel_rfl
theorem b8R {w:World} {B:Nat} {e:TypeId} {v:Value} {n:Nat} {xs:List Value} (h:w.ownsRow B e 1 v n xs):∀ g,v.ownBlock=some g→∃ c fz,w.heap[g]?=some (.cells c e fz):=by
 intro g hg;rcases h.2 with ⟨rfl,_⟩ | ⟨g',cap,cur,rfl,_,h3,_⟩
 · cases hg
 · have hg:g'=g:=by injection hg
   subst hg;exact ⟨_,_,h3⟩
theorem a2q (l:List Rl) (k:Nat):(a2S l k).length=a3z l k+1:=by unfold a2S a3z;simp
theorem a7A {l:List Rl} {k:Nat} (hk:k<l.length):a2S l (k+1)=a2S l k++(if l[k].skip then [] else [l[k].name]):=by
 unfold a2S;rw [List.take_add_one,List.getElem?_eq_getElem hk,Option.toList_some,List.filter_append,List.map_append];cases h:l[k].skip <;> simp [h]
set_option maxRecDepth 20000 in
set_option maxHeartbeats 2000000 in
theorem b5T (rv nv lv pv:Value) (g:Gm) (s:Int) (w:World) (h:GmV w rv nv lv pv g) (hl:g.rules.length≤1000000) (hl2:g.nonts.length≤1000000) :
 Calls Tryz.prog 118 #[gmA rv nv lv pv g.start,.int .i64 s] w fun e w'=>e=.returned (.string (e_ (g.name s)))∧Below w.heap.size w w':=by
 have hR:=hid h.rules;have hT:=hid h.nonts;obtain ⟨a,c,rfl⟩:=h.rules.shape;obtain ⟨na,nc,rfl⟩:=h.nonts.shape;obtain ⟨la,lc,rfl⟩:=h.levels.shape;obtain ⟨pa,pc,rfl⟩:=h.prods.shape;obtain ⟨RR,hRR⟩:∃ x,Hid (e_ (g.name s)=x):=⟨_,hid rfl⟩;rw [hRR.out];have hRn:Hid (∀ A:List Txt,A=a2S g.rules g.rules.length++g.nonts→e_ (if s<0 then [] else A.getD s.toNat [])=RR):=hid (fun A hA=>by subst hA;exact hRR.out);clear h hRR;obtain ⟨st,hst⟩:∃ x,g.start=x:=⟨_,rfl⟩;rw [hst];clear hst;generalize g.levels.length=ll;generalize g.prods.length=pp;generalize g.rules=R at *;generalize g.nonts=T at *;obtain ⟨n,hnn⟩:∃ n,Hid (R.length=n):=⟨_,hid rfl⟩;obtain ⟨nn,hnt⟩:∃ n,Hid (T.length=n):=⟨_,hid rfl⟩;rw [hnn.out] at hl hR hRn ⊢;rw [hnt.out] at hl2 hT ⊢;obtain ⟨W1,hW1⟩:∃ x,w.alloc (.cells #[.slice a n c,.slice na nn nc,.slice la ll lc,.slice pa pp pc,.int .i64 st] 27)=x:=⟨_,rfl⟩;have hB1:Hid (Below w.heap.size w W1):=by rw [← hW1];exact hid (al' w _)
 have hk1:Hid (W1.heap[w.heap.size]?=some (.cells #[.slice a n c,.slice na nn nc,.slice la ll lc,.slice pa pp pc,.int .i64 st] 27)):=by rw [← hW1];exact hid (b_ w _)
 have y0:Hid (W1.cell? ⟨w.heap.size,0,none⟩=some (.slice a n c)):=hid (c_ hk1.out rfl);have y1:Hid (W1.cell? ⟨w.heap.size,1,none⟩=some (.slice na nn nc)):=hid (c_ hk1.out rfl);have hR1:=hid (hR.out.keepR hB1.out.size fun _ _ _ _ h=>h.keep hB1.out);have hT1:Hid (Lst 1 a4F W1 (.slice na nn nc) T):=hid (hT.out.keepR hB1.out.size fun _ _ _ _ h=>d_ hB1.out h);clear hR hT hk1;have hO0:Hid (OwnT (W1.alloc (.cells #[.string (e_ [36])] 9)) W1.heap.size (.slice none 0 0) []):=hid (World.ownsRow_nil _ _ _ _);have hD:=hid (a8u W1 [36]);have e36:(⟨#[36]⟩:ByteArray)=e_ [36]:=rfl;go_enter Tryz.func118,Tryz.ntmps118
 go_wp2_with (at_builtin;refine a1n _ rfl _ _ rfl W1.heap.size [] [[36]] _ _ rfl rfl hO0.out hD.out (by simp) (by simp) ?_;intro v2 w2 hO2 hb2;have hO2:=hid hO2;have k2:=hid ((al' W1 _).trans hb2);clear hb2)
 clear hW1;go_loopw [5,6] (fun v i wr=>∃ k:Nat,k≤n∧i=.int .i64 (k:Int)∧Hid (OwnT wr W1.heap.size v (a2S R k))∧Hid (Below W1.heap.size W1 wr)) (fun _ i _=>n - (intOf i).toNat)
 case atStart=>exact ⟨0,Nat.zero_le _,rfl,hO2,k2⟩
 case round =>
  obtain ⟨k,hk,rfl,hO,hw⟩:=hrel;have z0:=d_ hw.out y0.out;have z1:=d_ hw.out y1.out;have hlen:Hid ((a2S R k).length≤1000001):=hid (by rw [a2q];have:=a0d R k;omega);by_cases hlt:k<n
  · have hltz:(k:Int)<(n:Int):=by omega
    have hkl:k<R.length:=by rw [hnn.out];exact hlt
    obtain ⟨b,o,he,-,v,x0,-,x2,-⟩:=(hR1.out.keepR hw.out.size fun _ _ _ _ h=>h.keep hw.out).at hkl;subst he;have hs:=a7A hkl;cases hsk:R[k].skip with
    | true =>
     rw [hsk] at x2 hs;rw [if_pos rfl,List.append_nil] at hs;have hO1:Hid (OwnT wr W1.heap.size u5 (a2S R (k+1))):=by rw [hs];exact hO
     clear hs hsk hO;go_wp2;go_roundw
     case rel=>exact ⟨k+1,by omega,by go_num,hO1,hw⟩
     case measure=>simp [intOf];omega
    | false =>
     rw [hsk] at x2 hs;rw [if_neg (by decide)] at hs;have hsH:=hid hs;have hOa:Hid (OwnT (wr.alloc (.cells #[.string (e_ R[k].name)] 9)) W1.heap.size u5 (a2S R k)):=hid (j_ hO.out (al' wr _));have hDa:=hid (a8u wr R[k].name);have hBa:Hid (W1.heap.size≤wr.heap.size):=hid hw.out.size;clear hs hsk hO;go_wp2_with (at_builtin;refine a1n _ rfl _ _ rfl W1.heap.size (a2S R k) [R[k].name] _ _ rfl rfl hOa.out hDa.out (by have:=hlen.out;simp;omega) (by have:=hBa.out;simp;omega) ?_;intro v3 w3 hO3 hb3;have hO4:Hid (OwnT w3 W1.heap.size v3 (a2S R (k+1))):=(by rw [hsH.out];exact hid hO3);have k3:=hid ((hw.out.trans ((al' wr _).mono hBa.out)).trans hb3);clear hb3 hO3)
     go_roundw
     case rel=>exact ⟨k+1,by omega,by go_num,hO4,k3⟩
     case measure=>simp [intOf];omega
  · have hltz:¬ (k:Int)<(n:Int):=by omega
    obtain rfl:k=n:=by omega
    obtain ⟨A,hA⟩:∃ A,Hid (a2S R k++T=A):=⟨_,hid rfl⟩;have hR2:=hid (hRn.out A hA.out.symm);have hTr:=hid (hT1.out.keepR hw.out.size fun _ _ _ _ h=>d_ hw.out h);have hBa:Hid (W1.heap.size≤wr.heap.size):=hid hw.out.size;have hln:Hid (((a2S R k).length+T.length) * 16≤140737488355328):=hid (by have:=hlen.out;have:=hnt.out;omega);have hAl:A.length≤2000001:=by rw [← hA.out,List.length_append];have:=hlen.out;have:=hnt.out;omega
    clear hRn hT1 hlen hR1 y0 y1 hD hO0;by_cases h0:s<0
    · have hR3:=hR2.out
      rw [if_pos h0] at hR3;have e0:Hid ((⟨#[]⟩:ByteArray)=RR):=hid hR3;clear hR2 hR3;go_wp2_with (at_builtin;refine a1n _ rfl _ _ rfl W1.heap.size (a2S R k) T _ _ rfl rfl hO.out hTr.out hln.out hBa.out ?_;intro v3 w3 hO3 hb3;rw [hA.out] at hO3;obtain ⟨va,vc,hve⟩:=p_ hO3;subst hve;have hO4:=hid hO3;have k3:=hid (hw.out.trans hb3);clear hb3 hO3)
      go_ret;exact ⟨by rw [← e0.out];rfl,hB1.out.trans (k3.out.mono hB1.out.size)⟩
    · have hR3:=hR2.out
      rw [if_neg h0] at hR3;by_cases h1:s<(A.length:Int)
      · have hcell:=hid (fun (u:World) (va:Option Addr) (n9 vc:Nat) (hO9:OwnT u W1.heap.size (.slice va n9 vc) A)=>hO9.at (j:=s.toNat) (by omega))
        rw [hR3] at hcell;obtain ⟨j,rfl⟩:∃ j:Nat,s=(j:Int):=⟨s.toNat,by omega⟩;rw [Int.toNat_natCast] at hcell;clear hR2 hR3;go_wp2_with (at_builtin;refine a1n _ rfl _ _ rfl W1.heap.size (a2S R k) T _ _ rfl rfl hO.out hTr.out hln.out hBa.out ?_;intro v3 w3 hO3 hb3;rw [hA.out] at hO3;obtain ⟨va,vc,hve⟩:=p_ hO3;subst hve;have hO4:=hid hO3;have k3:=hid (hw.out.trans hb3);obtain ⟨q,hqe,hq⟩:=hcell.out _ _ _ _ hO3;subst hqe;clear hb3 hO3)
        go_ret;exact ⟨by rfl,hB1.out.trans (k3.out.mono hB1.out.size)⟩
      · have e0:Hid ((⟨#[]⟩:ByteArray)=RR):=hid (by rw [← hR3,List.getD_eq_getElem?_getD,List.getElem?_eq_none (by omega)];rfl)
        clear hR2 hR3;go_wp2_with (at_builtin;refine a1n _ rfl _ _ rfl W1.heap.size (a2S R k) T _ _ rfl rfl hO.out hTr.out hln.out hBa.out ?_;intro v3 w3 hO3 hb3;rw [hA.out] at hO3;obtain ⟨va,vc,hve⟩:=p_ hO3;subst hve;have hO4:=hid hO3;have k3:=hid (hw.out.trans hb3);clear hb3 hO3)
        go_ret;exact ⟨by rw [← e0.out];rfl,hB1.out.trans (k3.out.mono hB1.out.size)⟩
end Go.Proofs.YtjgedijclkoemaaGreatDoor
namespace Go.Proofs.YtjgedijclkoemaaGreatDoor
open Go.Lib
theorem b1v (n:Int):∀ c∈itoa n,c≠10:=fun c h e=>by
 subst e;unfold itoa at h;split at h
 · rcases List.mem_cons.1 h with h | h
   · exact absurd h (by decide)
   · have:=a0v _ _ h;simp at this
 · have:=a0v _ _ h;simp at this
theorem a5n {s:UInt8}:∀ {l m:List (List UInt8)},(∀ t∈l,t≠[]∧∀ c∈t,c≠s)→(∀ t∈m,t≠[]∧∀ c∈t,c≠s)→[s].intercalate l=[s].intercalate m→l=m
 | [],[],_,_,_=>rfl
 | [],[y],_,hm,h=>absurd (by simpa [List.intercalate] using h.symm) (hm y List.mem_cons_self).1
 | [],y :: z :: m,_,_,h=>absurd h.symm (by simp [List.intercalate,List.intersperse])
 | [x],[],hl,_,h=>absurd (by simpa [List.intercalate] using h) (hl x List.mem_cons_self).1
 | x :: z :: l,[],_,_,h=>absurd h (by simp [List.intercalate,List.intersperse])
 | [x],[y],_,_,h=>by
  have:x=y:=by simpa [List.intercalate] using h
  rw [this]
 | [x],y :: z :: m,hl,_,h=>by
  have e:x=y++s :: [s].intercalate (z :: m):=by simpa [List.intercalate,List.intersperse] using h
  exact absurd rfl ((hl x List.mem_cons_self).2 s (by rw [e];simp))
 | x :: z :: l,[y],_,hm,h=>by
  have e:x++s :: [s].intercalate (z :: l)=y:=by simpa [List.intercalate,List.intersperse] using h
  exact absurd rfl ((hm y List.mem_cons_self).2 s (by rw [← e];simp))
 | x :: z :: l,y :: z' :: m,hl,hm,h=>by
  have e:x++s :: [s].intercalate (z :: l)=y++s :: [s].intercalate (z' :: m):=by simpa [List.intercalate,List.intersperse] using h
  obtain ⟨h1,h2⟩:=b4t (hl x List.mem_cons_self).2 (hm y List.mem_cons_self).2 e;have ih:=a5n (l:=z :: l) (m:=z' :: m) (fun t ht=>hl t (List.mem_cons_of_mem _ ht)) (fun t ht=>hm t (List.mem_cons_of_mem _ ht)) h2;rw [h1,ih]
end Go.Proofs.YtjgedijclkoemaaGreatDoor
namespace Go.Proofs
open Go.Shelf
def Tryz.lays169_ren:Go.Shelf.Ren:=⟨fun | 169=>82 | n=>n,fun | 70=>148 | 9=>9 | 0=>0 | 72=>150 | 37=>137 | 127=>179 | 3=>3 | 5=>5 | n=>n,fun | n=>n⟩
theorem Tryz.lays169:Go.Proofs.Lays.n169 Tryz.prog Tryz.lays169_ren:={
 mixed:=by kernel_rfl
 f169:=Tryz.func82.trans (congrArg some (by kernel_rfl))
 t0:=Tryz.underlying0
 a0:=Tryz.isAgg0
 z0:=Tryz.sizeOf0
 v0:=Tryz.zeroValue0
 t3:=Tryz.underlying3
 a3:=Tryz.isAgg3
 z3:=Tryz.sizeOf3
 v3:=Tryz.zeroValue3
 t9:=Tryz.underlying9
 a9:=Tryz.isAgg9
 z9:=Tryz.sizeOf9
 v9:=Tryz.zeroValue9
 t37:=Tryz.underlying137
 a37:=Tryz.isAgg137
 z37:=Tryz.sizeOf137
 v37:=Tryz.zeroValue137
 t70:=Tryz.underlying148
 a70:=Tryz.isAgg148
 z70:=Tryz.sizeOf148
 v70:=Tryz.zeroValue148
 t72:=Tryz.underlying150
 a72:=Tryz.isAgg150
 z72:=Tryz.sizeOf150
 v72:=Tryz.zeroValue150
 t127:=Tryz.underlying179
 a127:=Tryz.isAgg179
 z127:=Tryz.sizeOf179
 v127:=Tryz.zeroValue179 }
theorem Tryz.Builder_Extra_169:Builder.Extra Tryz.prog Tryz.lays169_ren:={
 sizeBuilder:=by kernel_rfl
 liesBuilder:=by kernel_rfl
 t5:=Tryz.underlying5
 a5:=Tryz.isAgg5
 z5:=Tryz.sizeOf5
 v5:=Tryz.zeroValue5
 infoByte:=by kernel_rfl
 cellsByte:=by kernel_rfl
 sizeByte:=by kernel_rfl
 neB5:=by decide }
open Go.RowKit in
theorem Tryz.Builder_String_any (B b:Nat) (l:List UInt8) (w:World) (h:Lib.IsBuilder 150 5 B b (Lib.byteCells l) w) (hBw:B≤w.heap.size) :
 Calls Tryz.prog 82 #[.pointer (some ⟨b,0,none⟩)] w fun e w'=>e=.returned (.string ⟨l.toArray⟩)∧Below B w w':=Any.Builder_String_any Tryz.lays169 Tryz.Builder_Extra_169 B b l w h hBw
def Tryz.lays156_ren:Go.Shelf.Ren:=⟨fun | 156=>60 | 165=>80 | 166=>81 | 169=>82 | 240=>116 | 241=>117 | 276=>163 | 277=>164 | n=>n,fun | 31=>23 | 9=>9 | 3=>3 | 4=>4 | 0=>0 | 20=>20 | 72=>150 | 76=>153 | 70=>148 | 37=>137 | 75=>152 | 127=>179 | 164=>216 | 5=>5 | 80=>155 | n=>n,fun | n=>n⟩
theorem Tryz.lays156:Go.Proofs.Lays.n156 Tryz.prog Tryz.lays156_ren:={
 mixed:=by kernel_rfl
 f156:=Tryz.func60.trans (congrArg some (by kernel_rfl))
 f165:=Tryz.func80.trans (congrArg some (by kernel_rfl))
 f166:=Tryz.func81.trans (congrArg some (by kernel_rfl))
 f169:=Tryz.func82.trans (congrArg some (by kernel_rfl))
 f240:=Tryz.func116.trans (congrArg some (by kernel_rfl))
 f241:=Tryz.func117.trans (congrArg some (by kernel_rfl))
 f276:=Tryz.func163.trans (congrArg some (by kernel_rfl))
 f277:=Tryz.func164.trans (congrArg some (by kernel_rfl))
 t0:=Tryz.underlying0
 a0:=Tryz.isAgg0
 z0:=Tryz.sizeOf0
 v0:=Tryz.zeroValue0
 t3:=Tryz.underlying3
 a3:=Tryz.isAgg3
 z3:=Tryz.sizeOf3
 v3:=Tryz.zeroValue3
 t4:=Tryz.underlying4
 a4:=Tryz.isAgg4
 z4:=Tryz.sizeOf4
 v4:=Tryz.zeroValue4
 t9:=Tryz.underlying9
 a9:=Tryz.isAgg9
 z9:=Tryz.sizeOf9
 v9:=Tryz.zeroValue9
 t20:=Tryz.underlying20
 a20:=Tryz.isAgg20
 z20:=Tryz.sizeOf20
 v20:=Tryz.zeroValue20
 t31:=Tryz.underlying23
 a31:=Tryz.isAgg23
 z31:=Tryz.sizeOf23
 v31:=Tryz.zeroValue23
 t37:=Tryz.underlying137
 a37:=Tryz.isAgg137
 z37:=Tryz.sizeOf137
 v37:=Tryz.zeroValue137
 t70:=Tryz.underlying148
 a70:=Tryz.isAgg148
 z70:=Tryz.sizeOf148
 v70:=Tryz.zeroValue148
 t72:=Tryz.underlying150
 a72:=Tryz.isAgg150
 z72:=Tryz.sizeOf150
 v72:=Tryz.zeroValue150
 t75:=Tryz.underlying152
 a75:=Tryz.isAgg152
 z75:=Tryz.sizeOf152
 v75:=Tryz.zeroValue152
 t76:=Tryz.underlying153
 a76:=Tryz.isAgg153
 z76:=Tryz.sizeOf153
 v76:=Tryz.zeroValue153
 t127:=Tryz.underlying179
 a127:=Tryz.isAgg179
 z127:=Tryz.sizeOf179
 v127:=Tryz.zeroValue179
 t164:=Tryz.underlying216
 a164:=Tryz.isAgg216
 z164:=Tryz.sizeOf216
 v164:=Tryz.zeroValue216 }
theorem Tryz.Builder_Extra_156:Builder.Extra Tryz.prog Tryz.lays156_ren:={
 sizeBuilder:=by kernel_rfl
 liesBuilder:=by kernel_rfl
 t5:=Tryz.underlying5
 a5:=Tryz.isAgg5
 z5:=Tryz.sizeOf5
 v5:=Tryz.zeroValue5
 infoByte:=by kernel_rfl
 cellsByte:=by kernel_rfl
 sizeByte:=by kernel_rfl
 neB5:=by decide }
open Go.RowKit in
theorem Tryz.strings_Join_none (a:Option Addr) (c:Nat) (sep:ByteArray) (w:World) :
 Calls Tryz.prog 60 #[.slice a 0 c,.string sep] w fun e w'=>e=.returned (.string ⟨#[]⟩)∧w'=w:=Any.strings_Join_none Tryz.lays156 Tryz.Builder_Extra_156 a c sep w
open Go.RowKit in
theorem Tryz.strings_Join (bk o c:Nat) (xs:List ByteArray) (sep:ByteArray) (w:World) (hcells:∀ (j:Nat) x,xs[j]?=some x→w.cell? ⟨bk,o+j,none⟩=some (.string x)) (hbk:bk<w.heap.size) (hN:xs.length≤140737488355328) (hcap:xs.length≤c) (hlen:(Lib.join (xs.map (·.data.toList)) sep.data.toList).length≤140737488355328) :
 Calls Tryz.prog 60 #[.slice (some ⟨bk,o,none⟩) xs.length c,.string sep] w fun e w'=>e=.returned (.string ⟨(Lib.join (xs.map (·.data.toList)) sep.data.toList).toArray⟩)∧Below w.heap.size w w':=Any.strings_Join Tryz.lays156 Tryz.Builder_Extra_156 bk o c xs sep w hcells hbk hN hcap hlen
def Tryz.lays171_ren:Go.Shelf.Ren:=⟨fun | 171=>58 | 243=>77 | 246=>104 | 283=>153 | 284=>154 | 285=>155 | 286=>156 | 129=>115 | 317=>186 | 318=>187 | 319=>188 | 320=>189 | 337=>201 | 338=>202 | n=>n,fun | 3=>3 | 9=>9 | 2=>2 | 4=>4 | 171=>206 | 0=>0 | 53=>163 | 37=>137 | 5=>5 | 173=>208 | 212=>228 | 51=>94 | 20=>20 | 213=>229 | 46=>139 | 232=>252 | 233=>253 | n=>n,fun | 17=>0 | 18=>2 | 19=>3 | n=>n⟩
theorem Tryz.lays171:Go.Proofs.Lays.n171 Tryz.prog Tryz.lays171_ren:={
 mixed:=by kernel_rfl
 f129:=Tryz.func115.trans (congrArg some (by kernel_rfl))
 f171:=Tryz.func58.trans (congrArg some (by kernel_rfl))
 f243:=Tryz.func77.trans (congrArg some (by kernel_rfl))
 f246:=Tryz.func104.trans (congrArg some (by kernel_rfl))
 f283:=Tryz.func153.trans (congrArg some (by kernel_rfl))
 f284:=Tryz.func154.trans (congrArg some (by kernel_rfl))
 f285:=Tryz.func155.trans (congrArg some (by kernel_rfl))
 f286:=Tryz.func156.trans (congrArg some (by kernel_rfl))
 f317:=Tryz.func186.trans (congrArg some (by kernel_rfl))
 f318:=Tryz.func187.trans (congrArg some (by kernel_rfl))
 f319:=Tryz.func188.trans (congrArg some (by kernel_rfl))
 f320:=Tryz.func189.trans (congrArg some (by kernel_rfl))
 f337:=Tryz.func201.trans (congrArg some (by kernel_rfl))
 f338:=Tryz.func202.trans (congrArg some (by kernel_rfl))
 t0:=Tryz.underlying0
 a0:=Tryz.isAgg0
 z0:=Tryz.sizeOf0
 v0:=Tryz.zeroValue0
 t2:=Tryz.underlying2
 a2:=Tryz.isAgg2
 z2:=Tryz.sizeOf2
 v2:=Tryz.zeroValue2
 t3:=Tryz.underlying3
 a3:=Tryz.isAgg3
 z3:=Tryz.sizeOf3
 v3:=Tryz.zeroValue3
 t4:=Tryz.underlying4
 a4:=Tryz.isAgg4
 z4:=Tryz.sizeOf4
 v4:=Tryz.zeroValue4
 t5:=Tryz.underlying5
 a5:=Tryz.isAgg5
 z5:=Tryz.sizeOf5
 v5:=Tryz.zeroValue5
 t9:=Tryz.underlying9
 a9:=Tryz.isAgg9
 z9:=Tryz.sizeOf9
 v9:=Tryz.zeroValue9
 t20:=Tryz.underlying20
 a20:=Tryz.isAgg20
 z20:=Tryz.sizeOf20
 v20:=Tryz.zeroValue20
 t37:=Tryz.underlying137
 a37:=Tryz.isAgg137
 z37:=Tryz.sizeOf137
 v37:=Tryz.zeroValue137
 t46:=Tryz.underlying139
 a46:=Tryz.isAgg139
 z46:=Tryz.sizeOf139
 v46:=Tryz.zeroValue139
 t51:=Tryz.underlying94
 a51:=Tryz.isAgg94
 z51:=Tryz.sizeOf94
 v51:=Tryz.zeroValue94
 t53:=Tryz.underlying163
 a53:=Tryz.isAgg163
 z53:=Tryz.sizeOf163
 v53:=Tryz.zeroValue163
 t171:=Tryz.underlying206
 a171:=Tryz.isAgg206
 z171:=Tryz.sizeOf206
 v171:=Tryz.zeroValue206
 t173:=Tryz.underlying208
 a173:=Tryz.isAgg208
 z173:=Tryz.sizeOf208
 v173:=Tryz.zeroValue208
 t212:=Tryz.underlying228
 a212:=Tryz.isAgg228
 z212:=Tryz.sizeOf228
 v212:=Tryz.zeroValue228
 t213:=Tryz.underlying229
 a213:=Tryz.isAgg229
 z213:=Tryz.sizeOf229
 t232:=Tryz.underlying252
 a232:=Tryz.isAgg252
 z232:=Tryz.sizeOf252
 v232:=Tryz.zeroValue252
 t233:=Tryz.underlying253
 a233:=Tryz.isAgg253
 z233:=Tryz.sizeOf253
 v233:=Tryz.zeroValue253
 g17:=by kernel_rfl
 g18:=by kernel_rfl
 g19:=by kernel_rfl }
open Go.RowKit Go.Sort Go.Lib in
theorem Tryz.strconv_Itoa_small (i:Nat) (hi:i<100) (w:World) :
 Calls Tryz.prog 58 #[.int .i64 i] w fun e w'=>e=.returned (.string ⟨(Lib.decDigits i).toArray⟩)∧w'=w:=Any.strconv_Itoa_small Tryz.lays171 i hi w
def Tryz.lays190_ren:Go.Shelf.Ren:=⟨fun | 190=>59 | 125=>79 | 258=>78 | 128=>114 | 129=>115 | 302=>105 | 303=>106 | 304=>107 | 305=>108 | 306=>109 | 307=>110 | 308=>111 | 309=>112 | 310=>113 | 333=>157 | 329=>158 | 330=>159 | 334=>160 | 335=>161 | 336=>162 | 344=>190 | n=>n,fun | 31=>23 | 9=>9 | 3=>3 | 46=>139 | 0=>0 | 51=>94 | 53=>163 | 4=>4 | 183=>171 | 182=>170 | 131=>83 | 5=>5 | 218=>210 | 222=>214 | 228=>231 | 229=>125 | n=>n,fun | n=>n⟩
theorem Tryz.lays190:Go.Proofs.Lays.n190 Tryz.prog Tryz.lays190_ren:={
 mixed:=by kernel_rfl
 f125:=Tryz.func79.trans (congrArg some (by kernel_rfl))
 f128:=Tryz.func114.trans (congrArg some (by kernel_rfl))
 f129:=Tryz.func115.trans (congrArg some (by kernel_rfl))
 f190:=Tryz.func59.trans (congrArg some (by kernel_rfl))
 f258:=Tryz.func78.trans (congrArg some (by kernel_rfl))
 f302:=Tryz.func105.trans (congrArg some (by kernel_rfl))
 f303:=Tryz.func106.trans (congrArg some (by kernel_rfl))
 f304:=Tryz.func107.trans (congrArg some (by kernel_rfl))
 f305:=Tryz.func108.trans (congrArg some (by kernel_rfl))
 f306:=Tryz.func109.trans (congrArg some (by kernel_rfl))
 f307:=Tryz.func110.trans (congrArg some (by kernel_rfl))
 f308:=Tryz.func111.trans (congrArg some (by kernel_rfl))
 f309:=Tryz.func112.trans (congrArg some (by kernel_rfl))
 f310:=Tryz.func113.trans (congrArg some (by kernel_rfl))
 f329:=Tryz.func158.trans (congrArg some (by kernel_rfl))
 f330:=Tryz.func159.trans (congrArg some (by kernel_rfl))
 f333:=Tryz.func157.trans (congrArg some (by kernel_rfl))
 f334:=Tryz.func160.trans (congrArg some (by kernel_rfl))
 f335:=Tryz.func161.trans (congrArg some (by kernel_rfl))
 f336:=Tryz.func162.trans (congrArg some (by kernel_rfl))
 f344:=Tryz.func190.trans (congrArg some (by kernel_rfl))
 t0:=Tryz.underlying0
 a0:=Tryz.isAgg0
 z0:=Tryz.sizeOf0
 v0:=Tryz.zeroValue0
 t3:=Tryz.underlying3
 a3:=Tryz.isAgg3
 z3:=Tryz.sizeOf3
 v3:=Tryz.zeroValue3
 t4:=Tryz.underlying4
 a4:=Tryz.isAgg4
 z4:=Tryz.sizeOf4
 v4:=Tryz.zeroValue4
 t5:=Tryz.underlying5
 a5:=Tryz.isAgg5
 z5:=Tryz.sizeOf5
 v5:=Tryz.zeroValue5
 t9:=Tryz.underlying9
 a9:=Tryz.isAgg9
 z9:=Tryz.sizeOf9
 v9:=Tryz.zeroValue9
 t31:=Tryz.underlying23
 a31:=Tryz.isAgg23
 z31:=Tryz.sizeOf23
 v31:=Tryz.zeroValue23
 t46:=Tryz.underlying139
 a46:=Tryz.isAgg139
 z46:=Tryz.sizeOf139
 v46:=Tryz.zeroValue139
 t51:=Tryz.underlying94
 a51:=Tryz.isAgg94
 z51:=Tryz.sizeOf94
 v51:=Tryz.zeroValue94
 t53:=Tryz.underlying163
 a53:=Tryz.isAgg163
 z53:=Tryz.sizeOf163
 v53:=Tryz.zeroValue163
 t131:=Tryz.underlying83
 a131:=Tryz.isAgg83
 z131:=Tryz.sizeOf83
 v131:=Tryz.zeroValue83
 t182:=Tryz.underlying170
 a182:=Tryz.isAgg170
 z182:=Tryz.sizeOf170
 v182:=Tryz.zeroValue170
 t183:=Tryz.underlying171
 a183:=Tryz.isAgg171
 z183:=Tryz.sizeOf171
 v183:=Tryz.zeroValue171
 t218:=Tryz.underlying210
 a218:=Tryz.isAgg210
 z218:=Tryz.sizeOf210
 v218:=Tryz.zeroValue210
 t222:=Tryz.underlying214
 a222:=Tryz.isAgg214
 z222:=Tryz.sizeOf214
 v222:=Tryz.zeroValue214
 t228:=Tryz.underlying231
 a228:=Tryz.isAgg231
 z228:=Tryz.sizeOf231
 v228:=Tryz.zeroValue231
 t229:=Tryz.underlying125
 a229:=Tryz.isAgg125
 z229:=Tryz.sizeOf125
 v229:=Tryz.zeroValue125 }
open Go.Sort Go.RowKit in
theorem Tryz.slices_Sort_string (blk off cap:Nat) (ss:List (List UInt8)) (w:World) (hH:Holds encStr w blk off ss.toArray) (hblk:blk<w.heap.size) (hsz:ss.length<4611686018427387904) :
 Calls Tryz.prog 59 #[.slice (some ⟨blk,off,none⟩) ss.length cap] w fun e w' =>
  e=.returned (.tuple #[])∧∃ n os,w'=grow (putRow encStr (Sort.ahead w n) blk off (ss.mergeSort fun x y=>decide (x≤y)).toArray) os:=Any.slices_Sort_string Tryz.lays190 blk off cap ss w hH hblk hsz
open Go.RowKit Go.Sort in
theorem Tryz.slices_Sort_string_none (p:Option Addr) (cap:Nat) (w:World) :
 Calls Tryz.prog 59 #[.slice p 0 cap] w fun e w'=>e=.returned (.tuple #[])∧w'=w:=Any.slices_Sort_string_none Tryz.lays190 p cap w
end Go.Proofs
namespace Go.Proofs.YtjgedijclkoemaaGreatDoor
open Go.RowKit Go.Maps Go.Sort
def a6U (g:Gm) (p:Pd) (k:Nat):Txt:=g.name p.left++[58]++(p.right.take k).flatMap fun n=>32 :: g.name n
def a6T (g:Gm) (p:Pd):Txt:=a6U g p p.right.length++[32,37,32]++g.name p.prec
theorem a4i {g:Gm} {p:Pd} {k:Nat} (hk:k<p.right.length):a6U g p (k+1)=a6U g p k++(32 :: g.name p.right[k]):=by
 unfold a6U;rw [List.take_add_one,List.getElem?_eq_getElem hk,Option.toList_some,List.flatMap_append,← List.append_assoc];congr 1
 simp
def a2H (g:Gm):Prop:=∀ n:Int,(g.name n).length≤100
theorem Fits12.nm {g:Gm} (h:Fits12 g):a2H g:=fun n=>by
 have hall:∀ t∈g.names,t.length≤100:=fun t ht=>by
  unfold Gm.names a2S at ht;rw [List.mem_append,List.mem_cons,List.mem_map] at ht;rcases ht with (rfl | ⟨r,hr,rfl⟩) | ht
  · decide
  · have hr:=(List.mem_filter.1 hr).1
    rw [List.take_length] at hr;obtain ⟨j,hj,rfl⟩:=List.getElem_of_mem hr;exact (h.rule j hj).2
  · obtain ⟨j,hj,rfl⟩:=List.getElem_of_mem ht
    exact h.nont j hj
 unfold Gm.name;split
 · exact Nat.zero_le _
 · rw [List.getD_eq_getElem?_getD]
   cases hq:g.names[n.toNat]? with
   | none=>exact Nat.zero_le _
   | some t=>exact hall t (List.mem_of_getElem? hq)
theorem a2n {g:Gm} (h:a2H g) (p:Pd):∀ k,(a6U g p k).length≤101+101 * k
 | 0=>by
  unfold a6U
  have:=h p.left
  simp
  omega
 | k+1=>by
  have ih:=a2n h p k;by_cases hk:k<p.right.length
  · rw [a4i hk,List.length_append,List.length_cons]
    have:=h p.right[k]
    omega
  · have:a6U g p (k+1)=a6U g p k:=by
     unfold a6U;rw [List.take_of_length_le (by omega:p.right.length≤k+1),List.take_of_length_le (by omega:p.right.length≤k)]
    rw [this];omega
theorem b5X {g:Gm} (h:a2H g) (p:Pd) (hr:p.right.length≤30):(a6T g p).length≤4000:=by
 have h1:=a2n h p p.right.length;have h2:=h p.prec;unfold a6T;rw [List.length_append,List.length_append];simp
 omega
set_option maxRecDepth 20000 in
set_option maxHeartbeats 16000000 in
theorem b5P (rv nv lv pv:Value) (g:Gm) (k:Nat) (w:World) (hV:GmV w rv nv lv pv g) (hk:k<g.prods.length) (hl:g.rules.length≤1000) (hl2:g.nonts.length≤1000) (_hl3:g.prods.length≤1000) (hN:a2H g) (hr:g.prods[k].right.length≤30) :
 Calls Tryz.prog 83 #[gmA rv nv lv pv g.start,.int .i64 (k:Int)] w fun e w'=>e=.returned (.string (e_ (a6T g g.prods[k])))∧Below w.heap.size w w':=by
 obtain ⟨pa,pc,rfl⟩:=hV.prods.shape;have hB1:=al' w (.cells #[rv,nv,lv,.slice pa g.prods.length pc,.int .i64 g.start] 27);have k1:=b_ w (.cells #[rv,nv,lv,.slice pa g.prods.length pc,.int .i64 g.start] 27);obtain ⟨W,hW⟩:∃ x,w.alloc (.cells #[rv,nv,lv,.slice pa g.prods.length pc,.int .i64 g.start] 27)=x:=⟨_,rfl⟩;rw [hW] at hB1 k1;have hB:=hid hB1;have hk1:=hid (fun u (hu:Below W.heap.size W u)=>l_ (g_ k1 hu))
 obtain ⟨b,o,q1,q3,e,hp9⟩:∃ b o q1 q3,pa=some ⟨b,o,none⟩∧∀ u,Below W.heap.size W u→u.cell? ⟨b,o+k * 3,none⟩=some (.int .i64 g.prods[k].left)∧u.cell? ⟨b,o+k * 3+1,none⟩=some (.slice q1 g.prods[k].right.length q3)∧u.cell? ⟨b,o+k * 3+2,none⟩=some (.int .i64 g.prods[k].prec)∧∀ j (hj:j<g.prods[k].right.length),∃ b' o',q1=some ⟨b',o',none⟩∧u.cell? ⟨b',o'+j,none⟩=some (.int .i64 g.prods[k].right[j]):=by
  obtain ⟨b,o,e,-,v,h0,h1,h2,hN⟩:=hV.prods.at hk;obtain ⟨q1,q3,rfl,-⟩:=id hN;refine ⟨b,o,q1,q3,e,fun u hu=>?_⟩;have hu0:=a_ hB1 hu;refine ⟨d_ hu0 h0,d_ hu0 h1,d_ hu0 h2,fun j hj=>?_⟩;obtain ⟨b',o',cap,e',_,_,hc⟩:=(hN.keep hu0).at (by omega);injection e' with e1 _ _;exact ⟨b',o',e1,hc j hj⟩
 subst e;have hp:=hid hp9;have GN:=hid (fun (j:Int) (u:World) (hu:Below W.heap.size W u)=>b5T rv nv lv _ g j u (hV.keep (a_ hB1 hu)) (by omega) (by omega));have hK0:Hid (a6U g g.prods[k] 0=g.name g.prods[k].left++[58]):=hid (by unfold a6U;simp);have hKs:=hid (fun j (hj:j<g.prods[k].right.length)=>a4i (g:=g) (p:=g.prods[k]) hj);have hKe:Hid (a6T g g.prods[k]=a6U g g.prods[k] g.prods[k].right.length++[32,37,32]++g.name g.prods[k].prec):=hid rfl;have hKl:=hid (fun j=>a2n hN g.prods[k] j);have hNl:=hid hN;generalize a6T g g.prods[k]=R at *;generalize a6U g g.prods[k]=F at *;generalize g.prods[k]=pd at *;obtain ⟨rl,hrl⟩:∃ n,Hid (pd.right.length=n):=⟨_,hid rfl⟩;rw [hrl.out] at hr hKe;clear hV hB1 k1 hN hp9;generalize g.prods.length=pn at *;generalize g.start=st at *;obtain ⟨y0,y1,y2,y3,y4⟩:=hk1.out W (Below.refl _ _);obtain ⟨d0,d1,d2,-⟩:=hp.out W (Below.refl _ _);rw [hrl.out] at d1;have hkz:¬ (k:Int)<0:=by omega
 have hkz2:¬ (pn:Int)≤(k:Int):=by omega
 have cA:Hid (∀ d os,Calls Tryz.prog 118 #[gmA rv nv lv (.slice (some ⟨b,o,none⟩) pn pc) st,.int .i64 pd.left] (grow (redrawn W d) os) fun e w''=>e=.returned (.string (e_ (g.name pd.left)))∧∃ p:Regrown,w''=grow (redrawn W p.d) p.os):=hid (fun d os=>Calls.regrown_of (GN.out pd.left _ (below_regrown W d os)));have e0:=cell_regrown y0;have e1:=cell_regrown y1;have e2:=cell_regrown y2;have e3:=cell_regrown y3;have e4:=cell_regrown y4;have f0:=cell_regrown d0;have s0:(e_ (g.name pd.left)).size≤100:=by rw [o_];exact hNl.out _
 have hcat:=fun u=>a0y (e_ (g.name pd.left)) ⟨#[58]⟩ u (by have:(⟨#[58]⟩:ByteArray).size=1:=rfl;omega)
 have hF0:Hid (e_ (g.name pd.left)++⟨#[58]⟩=e_ (F 0)):=hid (by rw [hK0.out,← a0b];rfl);go_enter Tryz.func83,Tryz.ntmps83
 go_wp2_with fail
 clear hW y0 y1 y2 y3 y4 d0 d1 d2;refine wp_region_quiet_below (by kernel_rfl) (by kernel_rfl) ?_
 repeat (first | go_big_quiet_step (exact cA.out _ _) | quiet_step (exact cA.out _ _))
 refine wpQuiet_nil ?_;intro _ hw';obtain ⟨⟨dq,osq⟩,hw''⟩:=hw';subst hw'';have hq:=hid (below_regrown W dq osq);generalize grow (redrawn W dq) osq=wz at *;clear e0 e1 e2 e3 e4 f0 cA hcat s0;rw [hF0.out];go_wp2;go_loopw [5,6] (fun s i wr=>∃ j:Nat,j≤rl∧i=.int .i64 (j:Int)∧s=.string (e_ (F j))∧Hid (Below W.heap.size W wr)) (fun _ i _=>rl - (intOf i).toNat)
 case atStart=>exact ⟨0,Nat.zero_le _,rfl,rfl,hq⟩
 case round =>
  obtain ⟨j,hj,rfl,rfl,hbl⟩:=hrel;obtain ⟨y0,y1,y2,y3,y4⟩:=hk1.out wr hbl.out;obtain ⟨d0,d1,d2,dr⟩:=hp.out wr hbl.out;rw [hrl.out] at d1;have e0:=cell_regrown y0;have e1:=cell_regrown y1;have e2:=cell_regrown y2;have e3:=cell_regrown y3;have e4:=cell_regrown y4;have hFl:(e_ (F j)).size≤10000:=by rw [o_];have:=hKl.out j;omega
  by_cases hlt:j<rl
  · have hltz:(j:Int)<(rl:Int):=by omega
    have hjl:j<pd.right.length:=by rw [hrl.out];exact hlt
    obtain ⟨b',o',rfl,c0⟩:=dr j hjl;have f0:=cell_regrown d1;have f1:=cell_regrown c0;have cA:Hid (∀ d os,Calls Tryz.prog 118 #[gmA rv nv lv (.slice (some ⟨b,o,none⟩) pn pc) st,.int .i64 pd.right[j]] (grow (redrawn wr d) os) fun e w''=>e=.returned (.string (e_ (g.name pd.right[j])))∧∃ p:Regrown,w''=grow (redrawn wr p.d) p.os):=hid (fun d os=>Calls.regrown_of (GN.out pd.right[j] _ (a_ hbl.out (below_regrown wr d os))));have hF9:Hid (e_ (F j)++(⟨#[32]⟩++e_ (g.name pd.right[j]))=e_ (F (j+1))):=hid (by rw [hKs.out j hjl,show (32 :: g.name pd.right[j])=[32]++g.name pd.right[j] from rfl,← a0b,← a0b];rfl);have s0:(e_ (g.name pd.right[j])).size≤100:=by rw [o_];exact hNl.out _
    clear dr;generalize e_ (g.name pd.right[j])=N9 at *;generalize pd.right[j]=x9 at *;generalize e_ (F j)=S9 at *;have hc1:=fun u=>a0y ⟨#[32]⟩ N9 u (by have:(⟨#[32]⟩:ByteArray).size=1:=rfl;omega)
    have hc2:=fun u=>a0y S9 (⟨#[32]⟩++N9) u (by rw [ByteArray.size_append];have:(⟨#[32]⟩:ByteArray).size=1:=rfl;omega)
    clear c0 d0 d2 y0 y1 y2 y4;go_wp2_with fail
    clear d1 y3;refine wp_region_quiet_below (by kernel_rfl) (by kernel_rfl) ?_
    repeat (first | go_big_quiet_step (exact cA.out _ _) | quiet_step (exact cA.out _ _))
    refine wpQuiet_nil ?_;intro _ hw';obtain ⟨⟨dq,osq⟩,hw''⟩:=hw';subst hw'';have hq2:=hid (a_ hbl.out (below_regrown wr dq osq));generalize grow (redrawn wr dq) osq=wy at *;rw [hF9.out];go_wp2;go_roundw
    case rel=>exact ⟨j+1,by omega,by go_num,rfl,hq2⟩
    case measure=>simp [intOf];omega
  · have hltz:¬ (j:Int)<(rl:Int):=by omega
    obtain rfl:j=rl:=by omega
    have f0:=cell_regrown d2;have cA:Hid (∀ d os,Calls Tryz.prog 118 #[gmA rv nv lv (.slice (some ⟨b,o,none⟩) pn pc) st,.int .i64 pd.prec] (grow (redrawn wr d) os) fun e w''=>e=.returned (.string (e_ (g.name pd.prec)))∧∃ p:Regrown,w''=grow (redrawn wr p.d) p.os):=hid (fun d os=>Calls.regrown_of (GN.out pd.prec _ (a_ hbl.out (below_regrown wr d os))));have hF9:Hid ((e_ (F j)++⟨#[32,37,32]⟩)++e_ (g.name pd.prec)=e_ R):=hid (by rw [hKe.out,← a0b,← a0b];rfl);have s0:(e_ (g.name pd.prec)).size≤100:=by rw [o_];exact hNl.out _
    clear dr;generalize e_ (g.name pd.prec)=N9 at *;generalize pd.prec=x9 at *;generalize e_ (F j)=S9 at *;have hc1:=fun u=>a0y S9 ⟨#[32,37,32]⟩ u (by have:(⟨#[32,37,32]⟩:ByteArray).size=3:=rfl;omega)
    have hc2:=fun u=>a0y (S9++⟨#[32,37,32]⟩) N9 u (by rw [ByteArray.size_append];have:(⟨#[32,37,32]⟩:ByteArray).size=3:=rfl;omega)
    clear d0 d2 y0 y1 y2 y4;go_wp2_with fail
    clear d1 y3;refine wp_region_quiet_below (by kernel_rfl) (by kernel_rfl) ?_
    repeat (first | go_big_quiet_step (exact cA.out _ _) | quiet_step (exact cA.out _ _))
    refine wpQuiet_nil ?_;intro _ hw';obtain ⟨⟨dq,osq⟩,hw''⟩:=hw';subst hw'';have hq2:=hid (a_ hbl.out (below_regrown wr dq osq));generalize grow (redrawn wr dq) osq=wy at *;rw [hF9.out];go_wp2;go_ret;exact ⟨rfl,a_ hB.out hq2.out⟩
def txo (g:Gm) (p:Int):Txt:=if p<0 then [] else ((g.prods[p.toNat]?).map (a6T g)).getD []
def nam (g:Gm) (x:It):Txt:=txo g x.1++[46]++[UInt8.ofNat (48+x.2.toNat)]
theorem a5I {g:Gm} {p:Int} (h:p<0):txo g p=[]:=if_pos h
theorem a9p {g:Gm} {k:Nat} (h:k<g.prods.length):txo g (k:Int)=a6T g g.prods[k]:=by
 unfold txo;rw [if_neg (by omega),Int.toNat_natCast,List.getElem?_eq_getElem h];rfl
theorem a8v {g:Gm} (h:a2H g) (hr:∀ k (hk:k<g.prods.length),g.prods[k].right.length≤30) (p:Int):(txo g p).length≤4000:=by
 by_cases hp:p<0
 · rw [a5I hp];exact Nat.zero_le _
 · by_cases hk:p.toNat<g.prods.length
   · have e:p=((p.toNat:Nat):Int):=by omega
     rw [e,a9p hk];exact b5X h _ (hr _ hk)
   · unfold txo
     rw [if_neg hp,List.getElem?_eq_none (by omega)];exact Nat.zero_le _
set_option maxRecDepth 20000 in
set_option maxHeartbeats 4000000 in
theorem b2K (rv nv lv pv:Value) (st:Int) (p:Int) (w:World) (hp:p<0) :
 Calls Tryz.prog 83 #[gmA rv nv lv pv st,.int .i64 p] w fun e w'=>e=.returned (.string (e_ []))∧Below w.heap.size w w':=by
 have hB1:=hid (al' w (.cells #[rv,nv,lv,pv,.int .i64 st] 27));obtain ⟨W,hW⟩:∃ x,w.alloc (.cells #[rv,nv,lv,pv,.int .i64 st] 27)=x:=⟨_,rfl⟩;rw [hW] at hB1;go_enter Tryz.func83,Tryz.ntmps83
 go_wp2;clear hW;go_ret;exact ⟨rfl,hB1.out⟩
set_option maxRecDepth 20000 in
theorem b5Q (rv nv lv pv:Value) (g:Gm) (p:Int) (w:World) (hV:GmV w rv nv lv pv g) (hp:p<(g.prods.length:Int)) (hl:g.rules.length≤1000) (hl2:g.nonts.length≤1000) (hl3:g.prods.length≤1000) (hN:a2H g) (hr:∀ k (hk:k<g.prods.length),g.prods[k].right.length≤30) :
 Calls Tryz.prog 83 #[gmA rv nv lv pv g.start,.int .i64 p] w fun e w'=>e=.returned (.string (e_ (txo g p)))∧Below w.heap.size w w':=by
 by_cases hn:p<0
 · rw [a5I hn]
   exact b2K rv nv lv pv g.start p w hn
 · obtain ⟨k,rfl⟩:∃ k:Nat,p=(k:Int):=⟨p.toNat,by omega⟩
   have hk:k<g.prods.length:=by omega
   rw [a9p hk];exact b5P rv nv lv pv g k w hV hk hl hl2 hl3 hN (hr k hk)
def b7H (b:UInt8) (w:World) (v:Value):Prop:=∃ k,v=.slice (some ⟨k,0,none⟩) 1 1∧k<w.heap.size∧w.cell? ⟨k,0,none⟩=some (.int .u8 (b.toNat:Int))
theorem b4O (b:UInt8):StabB (b7H b):=fun w w' v ⟨k,e,h1,h2⟩ hs hb=>by
 subst e;exact ⟨k,rfl,Nat.lt_of_lt_of_le h1 hs,by rw [World.cell?_of_block (w:=w) (hb k rfl h1)];exact h2⟩
def clY (b:UInt8):Cl:=⟨none,none,some ⟨_,b4O b⟩,none⟩
theorem c2e {b:UInt8} {v:Value} {w0:World} {τ:Nat→Nat} {w:World} (h:OffT w0 (b7H b) τ w v):(clY b).holds w0 τ w v:=⟨fun _ e=>(by cases e),fun _ _ e=>(by cases e),fun _ e=>(by cases e;exact h),fun _ e=>(by cases e)⟩
theorem c2S {b:UInt8} {v:Value} {w0:World} {τ:Nat→Nat} {w:World} (h:(clY b).holds w0 τ w v):b7H b w v:=(h.2.2.1 _ rfl).at
theorem TagI.litY {w0 w:World} {τ:Nat→Nat} (h:TagI w0 τ w) (z:Int) (b:UInt8) (hz:(b.toNat:Int)=z):TagI w0 τ (w.alloc (.cells #[.int .u8 z] 5))∧(∀ t,StepT w0 t τ w τ (w.alloc (.cells #[.int .u8 z] 5)))∧OffT w0 (b7H b) τ (w.alloc (.cells #[.int .u8 z] 5)) (.slice (some ⟨w.heap.size,0,none⟩) 1 1):=by
 subst hz;obtain ⟨h1,h2⟩:=h.call (al' w (.cells #[.int .u8 (b.toNat:Int)] 5));refine ⟨h1,h2,.fresh h ⟨_,rfl,by rw [World.size_alloc];omega,c_ (b_ w (.cells #[.int .u8 (b.toNat:Int)] 5)) rfl⟩ fun k e=>?_⟩;have e:w.heap.size=k:=by injection e
 subst e;exact ⟨Nat.le_refl _,by rw [World.size_alloc];omega⟩
set_option maxRecDepth 20000 in
theorem b4v (w:World) (k:Nat) (b:UInt8) (T:ByteArray) (hT:T=e_ [b]) (h:w.cell? ⟨k,0,none⟩=some (.int .u8 (b.toNat:Int))):(convert 137 9 (.slice (some ⟨k,0,none⟩) 1 1)).run Tryz.prog w=.ok (.string T) w:=by
 subst hT;refine run_convert_bytes_back _ 137 9 5 _ 1 [b] Tryz.underlying137 Tryz.underlying5 Tryz.underlying9 ?_;intro j hj;have hj0:j=0:=by simp at hj;omega
 subst hj0;simpa [Addr.add] using h
set_option maxRecDepth 20000 in
set_option maxHeartbeats 8000000 in
theorem b2L (rv nv lv pv:Value) (g:Gm) (p:Int) (d:Nat) (w:World) (hV:GmV w rv nv lv pv g) (hp:p<(g.prods.length:Int)) (hd:d≤200) (hl:g.rules.length≤1000) (hl2:g.nonts.length≤1000) (hl3:g.prods.length≤1000) (hN:a2H g) (hr:∀ k (hk:k<g.prods.length),g.prods[k].right.length≤30) :
 Calls Tryz.prog 62 #[gmA rv nv lv pv g.start,itV (p,(d:Int))] w fun e w'=>e=.returned (.string (e_ (nam g (p,(d:Int)))))∧Below w.heap.size w w':=by
 have hB1:=al' w (.cells #[rv,nv,lv,pv,.int .i64 g.start] 27);have k1:=b_ w (.cells #[rv,nv,lv,pv,.int .i64 g.start] 27);have hB2:=al' (w.alloc (.cells #[rv,nv,lv,pv,.int .i64 g.start] 27)) (.cells #[.int .i64 p,.int .i64 (d:Int)] 49);have k2:=b_ (w.alloc (.cells #[rv,nv,lv,pv,.int .i64 g.start] 27)) (.cells #[.int .i64 p,.int .i64 (d:Int)] 49);have hs1:(w.alloc (.cells #[rv,nv,lv,pv,.int .i64 g.start] 27)).heap.size=w.heap.size+1:=World.size_alloc _ _;rw [hs1] at hB2 k2;obtain ⟨bi,hbi⟩:∃ n,w.heap.size+1=n:=⟨_,rfl⟩;rw [hbi] at hB2 k2;obtain ⟨W,hW⟩:∃ x,(w.alloc (.cells #[rv,nv,lv,pv,.int .i64 g.start] 27)).alloc (.cells #[.int .i64 p,.int .i64 (d:Int)] 49)=x:=⟨_,rfl⟩;rw [hW] at hB2 k2;have hlow:Hid (Below w.heap.size w W):=hid (hB1.trans (hB2.mono (by omega)));have hWs:W.heap.size=bi+1:=by rw [← hW,World.size_alloc,hs1,hbi]
 have k1W:W.heap[w.heap.size]?=some (.cells #[rv,nv,lv,pv,.int .i64 g.start] 27):=by rw [hB2.block w.heap.size (by omega)];exact k1
 have hk1:=hid (fun u (hu:Below W.heap.size W u)=>l_ (show u.heap[w.heap.size]?=_ from (hu.block w.heap.size (by omega)).trans k1W));have hk2:=hid (fun u (hu:Below W.heap.size W u)=>w_ (show u.heap[bi]?=_ from (hu.block bi (by omega)).trans k2));have GT:=hid (fun u (hu:Below W.heap.size W u)=>b5Q rv nv lv pv g p u (hV.keep (a_ hlow.out hu)) hp hl hl2 hl3 hN hr);obtain ⟨DB,hDBe⟩:∃ x,UInt8.ofNat (48+d)=x:=⟨_,rfl⟩;have hDB:Hid ((DB.toNat:Int)=48+(d:Int)):=hid (by rw [← hDBe,a8H (by omega)];omega);have hwr:Hid (IntKind.u8.wrap (48+(d:Int))=48+(d:Int)):=hid (by rw [IntKind.wrap_u8];omega);have hwi:Hid (IntKind.i64.wrap (48+(d:Int))=48+(d:Int)):=hid (by rw [IntKind.wrap_i64];omega);have htl:=a8v hN hr p
 have hTRe:Hid (e_ (txo g p)++⟨#[46]⟩++e_ [DB]=e_ (nam g (p,(d:Int)))):=hid (by
  unfold nam;rw [Int.toNat_natCast,hDBe,← a0b,← a0b];rfl)
 obtain ⟨T1,hT1⟩:∃ x,Hid (x=e_ [DB]):=⟨_,hid rfl⟩;have ht1:T1.size=1:=by rw [hT1.out,o_];rfl
 rw [← hT1.out] at hTRe;obtain ⟨TX,hTX⟩:∃ x,e_ (txo g p)=x:=⟨_,rfl⟩;have htx:TX.size≤4000:=by rw [← hTX,o_];exact htl
 rw [hTX] at hTRe GT;obtain ⟨TD,hTD⟩:∃ x,TX++⟨#[46]⟩=x:=⟨_,rfl⟩
 have htd:TD.size≤4001:=by
  rw [← hTD,ByteArray.size_append]
  have:(⟨#[46]⟩:ByteArray).size=1:=rfl
  omega
 rw [hTD] at hTRe
 have hcat1:=hid (fun u=>by
  have:=a0y TX ⟨#[46]⟩ u (by have:(⟨#[46]⟩:ByteArray).size=1:=rfl;omega)
  rw [hTD] at this;exact this)
 obtain ⟨TR,hTR⟩:∃ x,TD++T1=x:=⟨_,rfl⟩
 have hcat2:=hid (fun u=>by
  have:=a0y TD T1 u (by omega)
  rw [hTR] at this;exact this)
 rw [hTR] at hTRe;rw [← hTRe.out];clear hTR hTD hTX hDBe hB1 hB2 k1 k2 k1W hV hN hr hTRe htl htd htx ht1;generalize g.start=st at *;go_enter Tryz.func62,Tryz.ntmps62
 go_wp2_with fail
 try rw [hs1]
 try rw [hbi]
 try rw [hW]
 try clear hW
 refine a1m [clV (gmA rv nv lv pv st),clV (.pointer (some ⟨bi,0,none⟩)),clV (.int .i64 p),clV (.string TX),clV (.string TD),clV (.pointer (some ⟨bi,1,none⟩)),clV (.int .i64 (d:Int)),clV (.int .i64 (48+(d:Int))),clV (.int .u8 (48+(d:Int))),clY DB,clV (.string T1),clV (.string TR),clV (.string TR)] (fun _=>none) (by kernel_rfl) (by kernel_rfl) (by rfl) (by intro xs;simp only [a2m,Nat.reduceAdd,Act.put,List.setIfInBounds_toArray,List.set_cons_zero,List.set_cons_succ];rfl) ?_ ?_
 · refine h_ ?_ (h_ ?_ (h_ ?_ (h_ ?_ (h_ ?_ (h_ ?_ (h_ ?_ (h_ ?_ (h_ ?_ (h_ ?_ (h_ ?_ (h_ ?_ (h_ ?_ (a2l)))))))))))))
   · intro xs τ u fr hA hI hd K hK
     try dsimp only at hA
     subst hA;obtain ⟨y0,y1,y2,y3,y4⟩:=hk1.out u (hI.low);obtain ⟨x0,x1⟩:=hk2.out u (hI.low)
     have hK:=hK _ τ u hI (.inl (StepT.refl _ _ _)) (A_ _ _ _ _);go_simp
     exact hK
   · intro xs τ u fr hA hI hd K hK
     try dsimp only at hA
     subst hA;have hK:=hK _ τ u hI (.inl (StepT.refl _ _ _)) (A_ _ _ _ _);go_simp
     exact hK
   · intro xs τ u fr hA hI hd K hK
     try dsimp only at hA
     generalize hx1:xs 1=z1 at hA;have e1:=V_ (hd 1 rfl);rw [hx1] at e1;subst e1;subst hA;obtain ⟨y0,y1,y2,y3,y4⟩:=hk1.out u (hI.low);obtain ⟨x0,x1⟩:=hk2.out u (hI.low)
     have hK:=hK _ τ u hI (.inl (StepT.refl _ _ _)) (A_ _ _ _ _);go_simp
     exact hK
   · intro xs τ u fr hA hI hd K hK
     try dsimp only at hA
     generalize hx0:xs 0=z0 at hA;have e0:=V_ (hd 0 rfl);rw [hx0] at e0;subst e0;generalize hx2:xs 2=z2 at hA;have e2:=V_ (hd 2 rfl);rw [hx2] at e2;subst e2;subst hA;refine a0Q (by rfl) 83 #[gmA rv nv lv pv st,.int .i64 p] (by go_simp) (GT.out u (hI.low)) ?_;rintro e u' ⟨rfl,hc⟩;exact ⟨_,rfl,hK _ τ u' (hI.call hc).1 (.inl (hI.call hc).2) (A_ _ _ _ _)⟩
   · intro xs τ u fr hA hI hd K hK
     try dsimp only at hA
     generalize hx3:xs 3=z3 at hA;have e3:=V_ (hd 3 rfl);rw [hx3] at e3;subst e3;subst hA;have hc9:=hcat1.out u;have hK:=hK _ τ u hI (.inl (StepT.refl _ _ _)) (A_ _ _ _ _);go_simp
     exact hK
   · intro xs τ u fr hA hI hd K hK
     try dsimp only at hA
     subst hA;have hK:=hK _ τ u hI (.inl (StepT.refl _ _ _)) (A_ _ _ _ _);go_simp
     exact hK
   · intro xs τ u fr hA hI hd K hK
     try dsimp only at hA
     generalize hx5:xs 5=z5 at hA;have e5:=V_ (hd 5 rfl);rw [hx5] at e5;subst e5;subst hA;obtain ⟨y0,y1,y2,y3,y4⟩:=hk1.out u (hI.low);obtain ⟨x0,x1⟩:=hk2.out u (hI.low)
     have hK:=hK _ τ u hI (.inl (StepT.refl _ _ _)) (A_ _ _ _ _);go_simp
     exact hK
   · intro xs τ u fr hA hI hd K hK
     try dsimp only at hA
     generalize hx6:xs 6=z6 at hA;have e6:=V_ (hd 6 rfl);rw [hx6] at e6;subst e6;subst hA;have hwi:=hwi.out;have hK:=hK _ τ u hI (.inl (StepT.refl _ _ _)) (A_ _ _ _ _);go_simp
     exact hK
   · intro xs τ u fr hA hI hd K hK
     try dsimp only at hA
     generalize hx7:xs 7=z7 at hA;have e7:=V_ (hd 7 rfl);rw [hx7] at e7;subst e7;subst hA;have hw9:=hwr.out;have hK:=hK _ τ u hI (.inl (StepT.refl _ _ _)) (A_ _ _ _ _);go_simp
     exact hK
   · intro xs τ u fr hA hI hd K hK
     try dsimp only at hA
     generalize hx8:xs 8=z8 at hA;have e8:=V_ (hd 8 rfl);rw [hx8] at e8;subst e8;subst hA;obtain ⟨g1,g2,g3⟩:=hI.litY (48+(d:Int)) DB hDB.out;have hK:=hK _ _ _ g1 (.inl g2) (c2e g3);go_simp
     exact hK
   · intro xs τ u fr hA hI hd K hK
     try dsimp only at hA
     generalize hx9:xs 9=z9 at hA;have d9:=hd 9 rfl;rw [hx9] at d9;obtain ⟨k,rfl,hlt,hcl⟩:=c2S d9;subst hA;have hcv:=b4v u k DB T1 hT1.out hcl;have hK:=hK _ τ u hI (.inl (StepT.refl _ _ _)) (A_ _ _ _ _);go_simp
     exact hK
   · intro xs τ u fr hA hI hd K hK
     try dsimp only at hA
     generalize hx4:xs 4=z4 at hA;have e4:=V_ (hd 4 rfl);rw [hx4] at e4;subst e4;generalize hx10:xs 10=z10 at hA;have e10:=V_ (hd 10 rfl);rw [hx10] at e10;subst e10;subst hA;have hc9:=hcat2.out u;have hK:=hK _ τ u hI (.inl (StepT.refl _ _ _)) (A_ _ _ _ _);go_simp
     exact hK
   · intro xs τ u fr hA hI hd K hK
     try dsimp only at hA
     subst hA;have hK:=hK _ τ u hI (.inl (StepT.refl _ _ _)) (hd 11 rfl);go_simp
     exact hK
 · intro xs τ u fr hA hI hd
   try dsimp only at hA
   generalize hx12:xs 12=z12 at hA;have e12:=V_ (hd 12 rfl);rw [hx12] at e12;subst e12;subst hA;have hlo:=hid (a_ hlow.out hI.low);go_wp2;go_ret;exact ⟨rfl,hlo.out⟩
structure FitN (g:Gm):Prop where
 rules:g.rules.length≤1000
 nonts:g.nonts.length≤1000
 prods:g.prods.length≤1000
 nm:a2H g
 right:∀ k (hk:k<g.prods.length),g.prods[k].right.length≤30
def b1U (g:Gm) (l:List It):Prop:=∀ x:It,x∈l→x.1<(g.prods.length:Int)∧0≤x.2∧x.2≤200
set_option maxRecDepth 20000 in
theorem a9J (rv nv lv pv:Value) (g:Gm) (x:It) (w:World) (hV:GmV w rv nv lv pv g) (hg:FitN g) (hx:x.1<(g.prods.length:Int)∧0≤x.2∧x.2≤200) :
 Calls Tryz.prog 62 #[gmA rv nv lv pv g.start,.agg #[.int .i64 x.1,.int .i64 x.2]] w fun e w'=>e=.returned (.string (e_ (nam g x)))∧Below w.heap.size w w':=by
 obtain ⟨p,z⟩:=x;obtain ⟨h1,h2,h3⟩:=hx;obtain ⟨d,rfl⟩:∃ d:Nat,z=(d:Int):=⟨z.toNat,by have:0≤z:=h2;omega⟩;exact b2L rv nv lv pv g p d w hV h1 (by have:(d:Int)≤200:=h3;omega) hg.rules hg.nonts hg.prods hg.nm hg.right
def cnt (g:Gm) (l:List It) (t:Txt):Nat:=(l.map (nam g)).count t
theorem c0s {g:Gm} {l:List It} {t:Txt} {k:Nat} (hk:k<l.length) (h:nam g l[k]=t):cnt g (l.take (k+1)) t=cnt g (l.take k) t+1:=by
 unfold cnt;rw [List.take_succ_eq_append_getElem hk,List.map_append,List.count_append,List.map_singleton,List.count_singleton,if_pos (by rw [h];exact beq_self_eq_true _)]
theorem c2J {g:Gm} {l:List It} {t:Txt} {k:Nat} (hk:k<l.length) (h:nam g l[k]≠t):cnt g (l.take (k+1)) t=cnt g (l.take k) t:=by
 unfold cnt;rw [List.take_succ_eq_append_getElem hk,List.map_append,List.count_append,List.map_singleton,List.count_singleton,if_neg (by simpa using h)];omega
theorem a9a (g:Gm) (l:List It) (t:Txt):cnt g l t≤l.length:=by
 have:=List.count_le_length (a:=t) (l:=l.map (nam g))
 rwa [List.length_map] at this
set_option maxRecDepth 100000 in
set_option maxHeartbeats 8000000 in
theorem a5e (rv nv lv pv vl:Value) (g:Gm) (l:List It) (t:Txt) (w:World) (hV:GmV w rv nv lv pv g) (hg:FitN g) (hI:Its w vl l) (hl:l.length≤1000000) (hm:b1U g l) :
 Calls Tryz.prog 61 #[gmA rv nv lv pv g.start,vl,.string (e_ t)] w fun e w'=>e=.returned (.int .i64 (cnt g l t:Int))∧Below w.heap.size w w':=by
 obtain ⟨a,c,rfl,-,-,hat⟩:=hI;have hB1:=al' w (.cells #[rv,nv,lv,pv,.int .i64 g.start] 27);have k1:=b_ w (.cells #[rv,nv,lv,pv,.int .i64 g.start] 27);obtain ⟨W,hW⟩:∃ x,w.alloc (.cells #[rv,nv,lv,pv,.int .i64 g.start] 27)=x:=⟨_,rfl⟩;rw [hW] at hB1 k1;have hk1:=hid (fun u (hu:Below W.heap.size W u)=>l_ (g_ k1 hu))
 have hat:=hid (fun u (hu:Below W.heap.size W u) k (hk:k<l.length)=>by
  obtain ⟨b,o,e,-,hc⟩:=hat k hk;exact (⟨b,o,e,d_ (a_ hB1 hu) hc.1,d_ (a_ hB1 hu) hc.2⟩:∃ b o,a=some ⟨b,o,none⟩∧u.cell? ⟨b,o+k * 2,none⟩=some (.int .i64 l[k].1)∧u.cell? ⟨b,o+k * 2+1,none⟩=some (.int .i64 l[k].2)))
 have GN:=hid (fun (u:World) (hu:Below W.heap.size W u) k (hk:k<l.length)=>a9J rv nv lv pv g l[k] u (hV.keep (a_ hB1 hu)) hg (hm _ (List.getElem_mem hk)));have hye:=hid (fun k (hk:k<l.length) h=>c0s (g:=g) (t:=t) hk h);have hno:=hid (fun k (hk:k<l.length) h=>c2J (g:=g) (t:=t) hk h);have hcl:=hid (fun k=>a9a g (l.take k) t);have h0:Hid (cnt g (l.take 0) t=0):=hid rfl;have hfin:Hid (cnt g (l.take l.length) t=cnt g l t):=hid (by rw [List.take_length]);have hB:=hid hB1;have b0:=hid (Below.refl W.heap.size W);obtain ⟨n,hn⟩:∃ n,Hid (l.length=n):=⟨_,hid rfl⟩;obtain ⟨R,hR⟩:∃ r,Hid (cnt g l t=r):=⟨_,hid rfl⟩;obtain ⟨F,hF⟩:∃ F:Nat→Nat,Hid (∀ k,cnt g (l.take k) t=F k):=⟨_,hid fun _=>rfl⟩;rw [hF.out] at h0;rw [hF.out,hR.out,hn.out] at hfin;rw [hR.out];rw [hn.out] at hl ⊢;clear hB1 k1 hV hm;generalize g.start=st at *;go_enter Tryz.func61,Tryz.ntmps61
 go_wp2;clear hW;go_loopw [7,8] (fun c i wr=>∃ k:Nat,k≤n∧c=.int .i64 (F k:Int)∧i=.int .i64 (k:Int)∧Hid (Below W.heap.size W wr)) (fun _ i _=>n - (intOf i).toNat)
 case atStart=>exact ⟨0,Nat.zero_le _,by rw [h0.out];rfl,rfl,b0⟩
 case round =>
  clear h0 b0;obtain ⟨k,hk,rfl,rfl,hbl⟩:=hrel;by_cases hlt:k<n
  · have hltz:(k:Int)<(n:Int):=by omega
    have hkl:k<l.length:=by rw [hn.out];exact hlt
    obtain ⟨y0,y1,y2,y3,y4⟩:=hk1.out wr hbl.out;obtain ⟨b,o,e,z0,z1⟩:=hat.out wr hbl.out k hkl;subst e;have e0:=cell_regrown y0;have e1:=cell_regrown y1;have e2:=cell_regrown y2;have e3:=cell_regrown y3;have e4:=cell_regrown y4;have f0:=cell_regrown z0;have f1:=cell_regrown z1;have cA:Hid (∀ d os,Calls Tryz.prog 62 #[gmA rv nv lv pv st,.agg #[.int .i64 l[k].1,.int .i64 l[k].2]] (grow (redrawn wr d) os) fun e w''=>e=.returned (.string (e_ (nam g l[k])))∧∃ p:Regrown,w''=grow (redrawn wr p.d) p.os):=hid (fun d os=>Calls.regrown_of (GN.out _ (a_ hbl.out (below_regrown wr d os)) k hkl));have hye:=hid (hye.out k hkl);have hno:=hid (hno.out k hkl);have hfk:F k≤n:=by have:=hcl.out k;rw [hF.out,List.length_take] at this;omega
    generalize l[k].1=a1 at *;generalize l[k].2=a2 at *;generalize nam g l[k]=N9 at *;rw [hF.out,hF.out] at hye hno;clear y0 y1 y2 y3 y4 z0 z1;by_cases hq:N9=t
    · have hz:((e_ N9).toList == (e_ t).toList)=true:=by rw [a1p];exact decide_eq_true hq
      have hy:=hid (hye.out hq);clear hye hno hq;generalize e_ N9=S9 at *;generalize e_ t=S8 at *;go_wp2_with fail
      refine wp_region_quiet_below (by kernel_rfl) (by kernel_rfl) ?_
      repeat (first | go_big_quiet_step (exact cA.out _ _) | quiet_step (exact cA.out _ _))
      refine wpQuiet_nil ?_;intro _ hw';obtain ⟨⟨dq,osq⟩,hw''⟩:=hw';subst hw'';have hq2:=hid (a_ hbl.out (below_regrown wr dq osq));generalize grow (redrawn wr dq) osq=wy at *;clear e0 e1 e2 e3 e4 f0 f1 cA;go_wp2;go_roundw
      case rel=>exact ⟨k+1,by omega,by rw [hy.out];go_num,by go_num,hq2⟩
      case measure=>simp [intOf];omega
    · have hz:((e_ N9).toList == (e_ t).toList)=false:=by rw [a1p];exact decide_eq_false hq
      have hy:=hid (hno.out hq);clear hye hno hq;generalize e_ N9=S9 at *;generalize e_ t=S8 at *;go_wp2_with fail
      refine wp_region_quiet_below (by kernel_rfl) (by kernel_rfl) ?_
      repeat (first | go_big_quiet_step (exact cA.out _ _) | quiet_step (exact cA.out _ _))
      refine wpQuiet_nil ?_;intro _ hw';obtain ⟨⟨dq,osq⟩,hw''⟩:=hw';subst hw'';have hq2:=hid (a_ hbl.out (below_regrown wr dq osq));generalize grow (redrawn wr dq) osq=wy at *;clear e0 e1 e2 e3 e4 f0 f1 cA;go_wp2;go_roundw
      case rel=>exact ⟨k+1,by omega,by rw [hy.out],by go_num,hq2⟩
      case measure=>simp [intOf];omega
  · have hltz:¬ (k:Int)<(n:Int):=by omega
    obtain rfl:k=n:=by omega
    go_wp2;go_ret;exact ⟨by rw [hfin.out];rfl,a_ hB.out hbl.out⟩
def c3e (g h:Gm) (a b:List It):Prop:=(∀ k (hk:k<a.length),cnt g a (nam g a[k])=cnt h b (nam g a[k]))∧a.length=b.length
open Classical in
noncomputable def b5g (g h:Gm) (a b:List It):Bool:=decide (c3e g h a b)
open Classical in
theorem a9i {g h:Gm} {a b:List It} (hn:¬ c3e g h a b):b5g g h a b=false:=decide_eq_false hn
open Classical in
theorem b0Q {g h:Gm} {a b:List It} (hn:c3e g h a b):b5g g h a b=true:=decide_eq_true hn
set_option maxRecDepth 100000 in
set_option maxHeartbeats 8000000 in
theorem b1g (rv nv lv pv va rv' nv' lv' pv' vb:Value) (g h:Gm) (A B:List It) (w:World) (hV:GmV w rv nv lv pv g) (hg:FitN g) (hV':GmV w rv' nv' lv' pv' h) (hg':FitN h) (hA:Its w va A) (hB:Its w vb B) (hAl:A.length≤1000000) (hBl:B.length≤1000000) (hmA:b1U g A) (hmB:b1U h B) :
 Calls Tryz.prog 36 #[gmA rv nv lv pv g.start,gmA rv' nv' lv' pv' h.start,va,vb] w fun e w'=>e=.returned (.bool (b5g g h A B))∧Below w.heap.size w w':=by
 obtain ⟨a,ac,rfl,-,-,hat⟩:=id hA;obtain ⟨bl,bc,rfl,-,-,-⟩:=id hB;have hB1:=al' w (.cells #[rv,nv,lv,pv,.int .i64 g.start] 27);have k1:=b_ w (.cells #[rv,nv,lv,pv,.int .i64 g.start] 27);have hB2:=al' (w.alloc (.cells #[rv,nv,lv,pv,.int .i64 g.start] 27)) (.cells #[rv',nv',lv',pv',.int .i64 h.start] 27);have k2:=b_ (w.alloc (.cells #[rv,nv,lv,pv,.int .i64 g.start] 27)) (.cells #[rv',nv',lv',pv',.int .i64 h.start] 27);have hs1:(w.alloc (.cells #[rv,nv,lv,pv,.int .i64 g.start] 27)).heap.size=w.heap.size+1:=World.size_alloc _ _;rw [hs1] at hB2 k2;obtain ⟨W,hW⟩:∃ x,(w.alloc (.cells #[rv,nv,lv,pv,.int .i64 g.start] 27)).alloc (.cells #[rv',nv',lv',pv',.int .i64 h.start] 27)=x:=⟨_,rfl⟩;rw [hW] at hB2 k2;have hlow:Hid (Below w.heap.size w W):=hid (hB1.trans (hB2.mono (by omega)));have hWs:W.heap.size=w.heap.size+1+1:=by rw [← hW,World.size_alloc,hs1]
 have k1W:W.heap[w.heap.size]?=some (.cells #[rv,nv,lv,pv,.int .i64 g.start] 27):=by rw [hB2.block w.heap.size (by omega)];exact k1
 have hk1:=hid (fun u (hu:Below W.heap.size W u)=>l_ (show u.heap[w.heap.size]?=_ from (hu.block w.heap.size (by omega)).trans k1W));have hk2:=hid (fun u (hu:Below W.heap.size W u)=>l_ (show u.heap[w.heap.size+1]?=_ from (hu.block (w.heap.size+1) (by omega)).trans k2))
 have hat:=hid (fun u (hu:Below W.heap.size W u) k (hk:k<A.length)=>by
  obtain ⟨b,o,e,-,hc⟩:=hat k hk;exact (⟨b,o,e,d_ (a_ hlow.out hu) hc.1,d_ (a_ hlow.out hu) hc.2⟩:∃ b o,a=some ⟨b,o,none⟩∧u.cell? ⟨b,o+k * 2,none⟩=some (.int .i64 A[k].1)∧u.cell? ⟨b,o+k * 2+1,none⟩=some (.int .i64 A[k].2)))
 have GN:=hid (fun (u:World) (hu:Below W.heap.size W u) k (hk:k<A.length)=>a9J rv nv lv pv g A[k] u (hV.keep (a_ hlow.out hu)) hg (hmA _ (List.getElem_mem hk)));have GA:=hid (fun (u:World) (hu:Below W.heap.size W u) t=>a5e rv nv lv pv _ g A t u (hV.keep (a_ hlow.out hu)) hg (hA.keep (a_ hlow.out hu)) hAl hmA);have GB:=hid (fun (u:World) (hu:Below W.heap.size W u) t=>a5e rv' nv' lv' pv' _ h B t u (hV'.keep (a_ hlow.out hu)) hg' (hB.keep (a_ hlow.out hu)) hBl hmB);have hcA:=hid (fun t=>a9a g A t);have hcB:=hid (fun t=>a9a h B t);have b0:=hid (Below.refl W.heap.size W);obtain ⟨R,hR⟩:∃ r,Hid (b5g g h A B=r):=⟨_,hid rfl⟩;have hno:Hid (∀ k (hk:k<A.length),cnt g A (nam g A[k])≠cnt h B (nam g A[k])→R=false):=hid (fun k hk hne=>by rw [← hR.out];exact a9i fun h9=>hne (h9.1 k hk))
 have hyes:Hid ((∀ k (hk:k<A.length),cnt g A (nam g A[k])=cnt h B (nam g A[k]))→R=((A.length:Int) == (B.length:Int))):=hid (fun h9=>by
  rw [← hR.out];by_cases e:A.length=B.length
  · rw [b0Q ⟨h9,e⟩,e];exact (beq_self_eq_true _).symm
  · rw [a9i fun h8=>e h8.2];exact (beq_eq_false_iff_ne.2 (by omega)).symm)
 obtain ⟨n,hn⟩:∃ n,Hid (A.length=n):=⟨_,hid rfl⟩;obtain ⟨m,hm⟩:∃ n,Hid (B.length=n):=⟨_,hid rfl⟩;have h0:Hid (∀ k (hk:k<A.length),k<0→cnt g A (nam g A[k])=cnt h B (nam g A[k])):=hid (fun k _ h9=>absurd h9 (Nat.not_lt_zero _));rw [hR.out];rw [hn.out] at hAl GA ⊢;rw [hm.out] at hBl GB hyes ⊢;clear hB1 hB2 k1 k2 k1W hV hV' hmA hmB hA hB hWs;generalize g.start=st at *;generalize h.start=st' at *;go_enter Tryz.func36,Tryz.ntmps36
 go_wp2
 try rw [hs1]
 try rw [hW]
 clear hW hs1;go_loopw [9] (fun i wr=>∃ k:Nat,k≤n∧i=.int .i64 (k:Int)∧Hid (∀ j (hj:j<A.length),j<k→cnt g A (nam g A[j])=cnt h B (nam g A[j]))∧Hid (Below W.heap.size W wr)) (fun i _=>n - (intOf i).toNat)
 case atStart=>exact ⟨0,Nat.zero_le _,rfl,h0,b0⟩
 case round =>
  clear h0 b0;obtain ⟨k,hk,rfl,hall,hbl⟩:=hrel;by_cases hlt:k<n
  · have hltz:(k:Int)<(n:Int):=by omega
    have hkl:k<A.length:=by rw [hn.out];exact hlt
    obtain ⟨y0,y1,y2,y3,y4⟩:=hk1.out wr hbl.out;obtain ⟨q0,q1,q2,q3,q4⟩:=hk2.out wr hbl.out;obtain ⟨b,o,e,z0,z1⟩:=hat.out wr hbl.out k hkl;subst e;have e0:=cell_regrown y0;have e1:=cell_regrown y1;have e2:=cell_regrown y2;have e3:=cell_regrown y3;have e4:=cell_regrown y4;have v0:=cell_regrown q0;have v1:=cell_regrown q1;have v2:=cell_regrown q2;have v3:=cell_regrown q3;have v4:=cell_regrown q4;have f0:=cell_regrown z0;have f1:=cell_regrown z1;have cA:Hid (∀ d os,Calls Tryz.prog 62 #[gmA rv nv lv pv st,.agg #[.int .i64 A[k].1,.int .i64 A[k].2]] (grow (redrawn wr d) os) fun e w''=>e=.returned (.string (e_ (nam g A[k])))∧∃ p:Regrown,w''=grow (redrawn wr p.d) p.os):=hid (fun d os=>Calls.regrown_of (GN.out _ (a_ hbl.out (below_regrown wr d os)) k hkl));have cB:Hid (∀ d os,Calls Tryz.prog 61 #[gmA rv nv lv pv st,.slice (some ⟨b,o,none⟩) n ac,.string (e_ (nam g A[k]))] (grow (redrawn wr d) os) fun e w''=>e=.returned (.int .i64 (cnt g A (nam g A[k]):Int))∧∃ p:Regrown,w''=grow (redrawn wr p.d) p.os):=hid (fun d os=>Calls.regrown_of (GA.out _ (a_ hbl.out (below_regrown wr d os)) _));have cC:Hid (∀ d os,Calls Tryz.prog 61 #[gmA rv' nv' lv' pv' st',.slice bl m bc,.string (e_ (nam g A[k]))] (grow (redrawn wr d) os) fun e w''=>e=.returned (.int .i64 (cnt h B (nam g A[k]):Int))∧∃ p:Regrown,w''=grow (redrawn wr p.d) p.os):=hid (fun d os=>Calls.regrown_of (GB.out _ (a_ hbl.out (below_regrown wr d os)) _));have hno:=hid (hno.out k hkl)
    have hal2:=hid (fun (h9:cnt g A (nam g A[k])=cnt h B (nam g A[k])) j (hj:j<A.length) (hjk:j<k+1)=>by
     rcases Nat.lt_or_ge j k with h8 | h8
     · exact hall.out j hj h8
     · obtain rfl:j=k:=by omega
       exact h9)
    have hx1:=hcA.out (nam g A[k]);have hx2:=hcB.out (nam g A[k]);generalize A[k].1=a1 at *;generalize A[k].2=a2 at *;generalize cnt g A (nam g A[k])=c1 at *;generalize cnt h B (nam g A[k])=c2 at *;generalize e_ (nam g A[k])=S9 at *;clear y0 y1 y2 y3 y4 q0 q1 q2 q3 q4 z0 z1 hall;by_cases hq:c1=c2
    · have hy:=hid (hal2.out hq)
      subst hq;clear hno hal2;go_wp2_with fail
      refine wp_region_quiet_below (by kernel_rfl) (by kernel_rfl) ?_
      repeat (first | go_big_quiet_step (first | with_reducible exact cA.out _ _ | with_reducible exact cB.out _ _ | with_reducible exact cC.out _ _) | quiet_step (first | with_reducible exact cA.out _ _ | with_reducible exact cB.out _ _ | with_reducible exact cC.out _ _))
      refine wpQuiet_nil ?_;intro _ hw';obtain ⟨⟨dq,osq⟩,hw''⟩:=hw';subst hw'';have hq2:=hid (a_ hbl.out (below_regrown wr dq osq));generalize grow (redrawn wr dq) osq=wy at *;clear e0 e1 e2 e3 e4 f0 f1 v0 v1 v2 v3 v4 cA cB cC;go_wp2;go_roundw
      case rel=>exact ⟨k+1,by omega,by go_num,hy,hq2⟩
      case measure=>simp [intOf];omega
    · have hr:=hno.out hq
      subst hr;have hqz:¬ (c1:Int)=(c2:Int):=by omega
      clear hno hal2 hq;go_wp2_with fail
      refine wp_region_quiet_below (by kernel_rfl) (by kernel_rfl) ?_
      repeat (first | go_big_quiet_step (first | with_reducible exact cA.out _ _ | with_reducible exact cB.out _ _ | with_reducible exact cC.out _ _) | quiet_step (first | with_reducible exact cA.out _ _ | with_reducible exact cB.out _ _ | with_reducible exact cC.out _ _))
      refine wpQuiet_nil ?_;intro _ hw';obtain ⟨⟨dq,osq⟩,hw''⟩:=hw';subst hw'';have hq2:=hid (a_ hbl.out (below_regrown wr dq osq));generalize grow (redrawn wr dq) osq=wy at *;clear e0 e1 e2 e3 e4 f0 f1 v0 v1 v2 v3 v4 cA cB cC;go_wp2;go_ret;exact ⟨rfl,a_ hlow.out hq2.out⟩
  · have hltz:¬ (k:Int)<(n:Int):=by omega
    obtain rfl:k=n:=by omega
    have hr:=hyes.out (fun j hj=>hall.out j hj (by rw [← hn.out];exact hj));rw [hn.out] at hr;clear hyes hno hall;subst hr;go_wp2;go_ret;exact ⟨rfl,a_ hlow.out hbl.out⟩
set_option maxRecDepth 20000 in
set_option maxHeartbeats 4000000 in
theorem a5d (g:Gm) (rv nv lv pv vl:Value) (L:List St) (w:World) (hV:GmV w rv nv lv pv g) (hb:BndG g) (hnl:∀ t∈g.allN,t.length≤1000000) (hL:Sts w vl L) (hl:L.length≤100000) (hlk:∀ x:St,x∈L→x.1.length≤1000∧x.2.length≤1000) :
 Calls Tryz.prog 35 #[gmA rv nv lv pv g.start,vl] w fun e w'=>e=.returned (.bool (a1s g L))∧Below w.heap.size w w':=by
 have GB:=hid (fun u (hu:Below w.heap.size w u)=>a7o g _ _ _ _ u (hV.keep hu) hb hnl);have GS:=hid (fun u vm (hu':Below w.heap.size w u) (hU:UsG g) (hF:a0A g) (hM:Sts u vm (N_ g))=>a5c vl vm L (N_ g) u (hL.keep hu') hM hl (by have:=a1C hF;omega) hlk (fun x hx=>by have:=a0W hU x hx;omega));have hB1:=al' w (.cells #[rv,nv,lv,pv,.int .i64 g.start] 27);have k1:=b_ w (.cells #[rv,nv,lv,pv,.int .i64 g.start] 27);obtain ⟨W,hW⟩:∃ x,w.alloc (.cells #[rv,nv,lv,pv,.int .i64 g.start] 27)=x:=⟨_,rfl⟩;rw [hW] at hB1 k1;have hB:=hid hB1;obtain ⟨y0,y1,y2,y3,y4⟩:=l_ k1;clear hV hb hnl hB1 k1 hL;by_cases hU:UsG g
 · by_cases hF:a0A g
   · rw [a9C hU hF]
     have GB:=hid ((GB.out W hB.out).mono fun e w' (h:c3m g W e w')=>(⟨h.1 hU hF,h.2.2.2⟩:(∃ v,e=.returned (.tuple #[v,.int .i64 0])∧Sts w' v (N_ g))∧Below W.heap.size W w'));have GS:=hid (fun u vm hu hM=>GS.out u vm hu hU hF hM);clear hU hF
     have hR:Hid (∀ u vm (hu:Below w.heap.size w u) (hM:Sts u vm (N_ g)),Calls Tryz.prog 12 #[vl,vm] u fun e w'=>e=.returned (.bool (open Classical in decide (L=N_ g)))∧Below u.heap.size u w'):=hid (fun u vm hu hM=>(GS.out u vm hu hM).mono fun e w' h=>by
      refine ⟨?_,h.2⟩;rw [h.1])
     clear GS;generalize (open Classical in decide (L=N_ g))=R at *;generalize g.start=st at *;go_enter Tryz.func35,Tryz.ntmps35
     go_wp2_with (first
      | (go_at_call 11;refine GB.out.mono ?_;clear GB;rintro e w3 ⟨⟨vm,rfl,hM⟩,hc3⟩;have hM:=hid hM;have hc3:=hid hc3)
      | (go_at_call 12;refine (hR.out _ vm (a_ hB.out hc3.out) hM.out).mono ?_;clear hR;rintro e w4 ⟨rfl,hc4⟩;have hc4:=hid hc4))
     go_ret;exact ⟨rfl,a_ hB.out (a_ hc3.out hc4.out)⟩
   · rw [a5X (fun h=>hF h.2)]
     have GB:=hid ((GB.out W hB.out).mono fun e w' (h:c3m g W e w')=>(⟨h.2.1 hU hF,h.2.2.2⟩:e=.returned (.tuple #[.slice none 0 0,.int .i64 3])∧Below W.heap.size W w'));clear hU hF GS;generalize g.start=st at *;go_enter Tryz.func35,Tryz.ntmps35
     go_wp2_with (go_at_call 11;refine GB.out.mono ?_;clear GB;rintro e w3 ⟨rfl,hc3⟩;have hc3:=hid hc3)
     go_ret;exact ⟨rfl,a_ hB.out hc3.out⟩
 · rw [a5X (fun h=>hU h.1)]
   have GB:=hid ((GB.out W hB.out).mono fun e w' (h:c3m g W e w')=>(⟨h.2.2.1 hU,h.2.2.2⟩:e=.returned (.tuple #[.slice none 0 0,.int .i64 10])∧Below W.heap.size W w'));clear hU GS;generalize g.start=st at *;go_enter Tryz.func35,Tryz.ntmps35
   go_wp2_with (go_at_call 11;refine GB.out.mono ?_;clear GB;rintro e w3 ⟨rfl,hc3⟩;have hc3:=hid hc3)
   go_ret;exact ⟨rfl,a_ hB.out hc3.out⟩
theorem Fits12.fitN {g:Gm} (h:Fits12 g):FitN g:=⟨by have:=h.rules;omega,by have:=h.nonts;omega,by have:=h.prods;omega,h.nm,h.prod⟩
theorem c2a {g:Gm} (hg:FitN g) {x:It} (h:itB g x=true):x.1<(g.prods.length:Int)∧0≤x.2∧x.2≤200:=by
 obtain ⟨h1,h2,h3,h4⟩:=T_.1 h;refine ⟨h2,h3,Int.le_trans h4 ?_⟩;unfold a0e;by_cases hn:x.1<0
 · rw [if_pos hn];simp
 · rw [if_neg hn]
   have hk:x.1.toNat<g.prods.length:=by omega
   rw [List.getD_eq_getElem?_getD,List.getElem?_eq_getElem hk,Option.getD_some]
   have:=hg.right _ hk
   omega
theorem a5O {g:Gm} (hu:UsG g) (hg:FitN g):∀ x:St,x∈N_ g→b1U g x.1:=fun x hx=>by
 have hK:=(KrI.fin hu.snd).right;unfold N_ at hx;generalize a7S g=K at *;obtain ⟨j,hj,rfl⟩:=List.getElem_of_mem hx;have hj':j<K.length:=by rw [a0i] at hj;exact hj
 have e:(a6c g K K.length)[j]=(K[j],if j<K.length then a0J g K K[j] else []):=a0Z (K:=K) hj';rw [e];exact fun y hy=>c2a hg (hK _ (List.getElem_mem hj') y hy)
noncomputable def atS (g h:Gm) (x:List It):List St→Nat→Int
 | [],_ => -1
 | m :: M,i=>if b5g g h x m.1=true then (i:Int) else atS g h x M (i+1)
theorem c0E {g h:Gm} {x:List It} {M:List St} {k:Nat} (hk:k<M.length) (ha:b5g g h x M[k].1=true):atS g h x (M.drop k) k=(k:Int):=by
 rw [← List.getElem_cons_drop hk];exact if_pos ha
theorem c2X {g h:Gm} {x:List It} {M:List St} {k:Nat} (hk:k<M.length) (ha:b5g g h x M[k].1=false):atS g h x (M.drop k) k=atS g h x (M.drop (k+1)) (k+1):=by
 rw [← List.getElem_cons_drop hk];exact if_neg (by rw [ha];exact fun e=>(by cases e))
noncomputable def mpL (g h:Gm) (L M:List St):List Int:=L.map fun x=>atS g h x.1 M 0
def c5e (g h:Gm) (L M:List St) (w:World) (e:Ending) (w':World):Prop:=
 (a1s g L=true→a1s h M=true→∃ v,e=.returned (.tuple #[v,.int .i64 0])∧Nums w' v (mpL g h L M))∧(¬ (a1s g L=true∧a1s h M=true)→e=.returned (.tuple #[.slice none 0 0,.int .i64 10]))∧Below w.heap.size w w'
set_option maxRecDepth 100000 in
set_option maxHeartbeats 8000000 in
theorem b5U (g h:Gm) (rv nv lv pv rv' nv' lv' pv' vl vm:Value) (L M:List St) (w:World) (hV:GmV w rv nv lv pv g) (hV':GmV w rv' nv' lv' pv' h) (hb:BndG g) (hb':BndG h) (hnl:∀ t∈g.allN,t.length≤1000000) (hnl':∀ t∈h.allN,t.length≤1000000) (hg:FitN g) (hg':FitN h)
 (hL:Sts w vl L) (hM:Sts w vm M) (hl:L.length≤100000) (hlm:M.length≤100000) (hlk:∀ x:St,x∈L→x.1.length≤1000∧x.2.length≤1000) (hmk:∀ x:St,x∈M→x.1.length≤1000∧x.2.length≤1000) :
 Calls Tryz.prog 20 #[vl,vm,gmA rv nv lv pv g.start,gmA rv' nv' lv' pv' h.start] w (c5e g h L M w):=by
 obtain ⟨a,ac,rfl⟩:=hL.shape;obtain ⟨am,mc,rfl⟩:=hM.shape;have hB1:=al' w (.cells #[rv,nv,lv,pv,.int .i64 g.start] 27);have k1:=b_ w (.cells #[rv,nv,lv,pv,.int .i64 g.start] 27);have hB2:=al' (w.alloc (.cells #[rv,nv,lv,pv,.int .i64 g.start] 27)) (.cells #[rv',nv',lv',pv',.int .i64 h.start] 27);have k2:=b_ (w.alloc (.cells #[rv,nv,lv,pv,.int .i64 g.start] 27)) (.cells #[rv',nv',lv',pv',.int .i64 h.start] 27);have hs1:(w.alloc (.cells #[rv,nv,lv,pv,.int .i64 g.start] 27)).heap.size=w.heap.size+1:=World.size_alloc _ _;rw [hs1] at hB2 k2;obtain ⟨W,hW⟩:∃ x,(w.alloc (.cells #[rv,nv,lv,pv,.int .i64 g.start] 27)).alloc (.cells #[rv',nv',lv',pv',.int .i64 h.start] 27)=x:=⟨_,rfl⟩;rw [hW] at hB2 k2;have hlow:Hid (Below w.heap.size w W):=hid (hB1.trans (hB2.mono (by omega)));have hWs:W.heap.size=w.heap.size+1+1:=by rw [← hW,World.size_alloc,hs1]
 have k1W:W.heap[w.heap.size]?=some (.cells #[rv,nv,lv,pv,.int .i64 g.start] 27):=by rw [hB2.block w.heap.size (by omega)];exact k1
 have hk1:=hid (fun u (hu:Below W.heap.size W u)=>l_ (show u.heap[w.heap.size]?=_ from (hu.block w.heap.size (by omega)).trans k1W));have hk2:=hid (fun u (hu:Below W.heap.size W u)=>l_ (show u.heap[w.heap.size+1]?=_ from (hu.block (w.heap.size+1) (by omega)).trans k2));have GR:=hid (fun (u:World) (hu:Below W.heap.size W u)=>a5d g rv nv lv pv _ L u (hV.keep (a_ hlow.out hu)) hb hnl (hL.keep (a_ hlow.out hu)) hl hlk);have GR':=hid (fun (u:World) (hu:Below W.heap.size W u)=>a5d h rv' nv' lv' pv' _ M u (hV'.keep (a_ hlow.out hu)) hb' hnl' (hM.keep (a_ hlow.out hu)) hlm hmk);obtain ⟨y0,y1,y2,y3,y4⟩:=hk1.out W (Below.refl _ _);obtain ⟨q0,q1,q2,q3,q4⟩:=hk2.out W (Below.refl _ _);have b0:=hid (Below.refl W.heap.size W);by_cases hr:a1s g L=true
 case neg =>
  refine Calls.mono (R:=fun e w'=>e=.returned (.tuple #[.slice none 0 0,.int .i64 10])∧Below w.heap.size w w') ?_ fun e w' h9=>⟨fun h1=>absurd h1 hr,fun _=>h9.1,h9.2⟩
  rw [Bool.not_eq_true] at hr;rw [hr] at GR;clear hB1 hB2 k1 k2 k1W hV hV' hL hM hWs hr;generalize L.length=n at *;generalize M.length=m at *;generalize g.start=st at *;generalize h.start=st' at *;go_enter Tryz.func20,Tryz.ntmps20
  go_wp2_with (go_at_call 35;refine (GR.out W b0.out).mono ?_;clear GR;rintro e w3 ⟨rfl,hc3⟩;have hc3:=hid hc3)
  go_ret2;exact ⟨rfl,a_ hlow.out hc3.out⟩
 case pos =>
 by_cases hr':a1s h M=true
 case neg =>
  refine Calls.mono (R:=fun e w'=>e=.returned (.tuple #[.slice none 0 0,.int .i64 10])∧Below w.heap.size w w') ?_ fun e w' h9=>⟨fun _ h1=>absurd h1 hr',fun _=>h9.1,h9.2⟩
  rw [Bool.not_eq_true] at hr';rw [hr] at GR;rw [hr'] at GR';have hz:=hid (fun u (hu:Below W.heap.size W u)=>hk2.out u hu);clear hB1 hB2 k1 k2 k1W hV hV' hL hM hWs hr hr' q0 q1 q2 q3 q4;generalize L.length=n at *;generalize M.length=m at *;generalize g.start=st at *;generalize h.start=st' at *;go_enter Tryz.func20,Tryz.ntmps20
  go_wp2_with (first
   | (go_at_call 35;refine (GR.out W b0.out).mono ?_;clear GR;rintro e w3 ⟨rfl,hc3⟩;have hc3:=hid hc3;obtain ⟨q0,q1,q2,q3,q4⟩:=hz.out w3 hc3.out)
   | (go_at_call 35;refine (GR'.out w3 hc3.out).mono ?_;clear GR';rintro e w4 ⟨rfl,hc4⟩;have hc4:=hid hc4))
  go_ret2;exact ⟨rfl,a_ hlow.out (a_ hc3.out hc4.out)⟩
 case pos =>
 refine Calls.mono (R:=fun e w'=>(∃ v,e=.returned (.tuple #[v,.int .i64 0])∧Nums w' v (mpL g h L M))∧Below w.heap.size w w') ?_ fun e w' h9=>⟨fun _ _=>h9.1,fun h1=>absurd ⟨hr,hr'⟩ h1,h9.2⟩
 have hnmL:∀ x:St,x∈L→b1U g x.1:=fun x hx=>by
  obtain ⟨h1,-,h3⟩:=R_.1 hr;rw [h3] at hx;exact a5O h1 hg x hx
 have hnmM:∀ x:St,x∈M→b1U h x.1:=fun x hx=>by
  obtain ⟨h1,-,h3⟩:=R_.1 hr';rw [h3] at hx;exact a5O h1 hg' x hx
 rw [hr] at GR;rw [hr'] at GR'
 have hatL:=hid (fun u (hu:Below W.heap.size W u) j (hj:j<L.length)=>by
  obtain ⟨b',o,e,-,vk,vn,h1,h2,h3,h4⟩:=(Sts.keep hL (a_ hlow.out hu)).at hj;exact (⟨b',o,e,vk,h1,h3⟩:∃ b' o,a=some ⟨b',o,none⟩∧∃ vk,u.cell? ⟨b',o+j * 2,none⟩=some vk∧Its u vk L[j].1))
 have hatM:=hid (fun u (hu:Below W.heap.size W u) j (hj:j<M.length)=>by
  obtain ⟨b',o,e,-,vk,vn,h1,h2,h3,h4⟩:=(Sts.keep hM (a_ hlow.out hu)).at hj;exact (⟨b',o,e,vk,h1,h3⟩:∃ b' o,am=some ⟨b',o,none⟩∧∃ vk,u.cell? ⟨b',o+j * 2,none⟩=some vk∧Its u vk M[j].1))
 have GA:=hid (fun (u u':World) (hu:Below W.heap.size W u) (hu':Below u.heap.size u u') va vb i j (hi:i<L.length) (hj:j<M.length) (hA:Its u va L[i].1) (hB:Its u vb M[j].1)=>b1g rv nv lv pv va rv' nv' lv' pv' vb g h L[i].1 M[j].1 u' (hV.keep (a_ hlow.out (a_ hu hu'))) hg (hV'.keep (a_ hlow.out (a_ hu hu'))) hg' (hA.keep hu') (hB.keep hu') (by have:=(hlk _ (List.getElem_mem hi)).1;omega) (by have:=(hmk _ (List.getElem_mem hj)).1;omega) (hnmL _ (List.getElem_mem hi)) (hnmM _ (List.getElem_mem hj)));have hyes:=hid (fun (x:List It) k (hk:k<M.length) h9=>c0E (g:=g) (h:=h) (x:=x) hk h9);have hno:=hid (fun (x:List It) k (hk:k<M.length) h9=>c2X (g:=g) (h:=h) (x:=x) hk h9);have hend:Hid (∀ x:List It,atS g h x (M.drop M.length) M.length = -1):=hid (fun x=>by rw [List.drop_length];rfl)
 have hstep:Hid (∀ i (hi:i<L.length),mpL g h (L.take (i+1)) M=mpL g h (L.take i) M++[atS g h L[i].1 (M.drop 0) 0]):=hid (fun i hi=>by
  unfold mpL;rw [List.take_succ_eq_append_getElem hi,List.map_append];rfl)
 have hmpl:Hid (∀ i,(mpL g h (L.take i) M).length≤L.length):=hid (fun i=>by unfold mpL;rw [List.length_map,List.length_take];omega);have hfin:Hid (mpL g h (L.take L.length) M=mpL g h L M):=hid (by rw [List.take_length]);have hz:=hid (fun u (hu:Below W.heap.size W u)=>hk2.out u hu);obtain ⟨n,hn⟩:∃ n,Hid (L.length=n):=⟨_,hid rfl⟩;obtain ⟨m,hm⟩:∃ n,Hid (M.length=n):=⟨_,hid rfl⟩;rw [hn.out] at hl hmpl hfin GR ⊢;rw [hm.out] at hlm hend GR' ⊢;have x0:Hid (Own W W.heap.size (.slice none 0 0) []):=hid (World.ownsRow_nil _ _ _ _);clear hB1 hB2 k1 k2 k1W hV hV' hL hM hWs hr hr' hnmL hnmM q0 q1 q2 q3 q4 hlk hmk;generalize g.start=st at *;generalize h.start=st' at *;go_enter Tryz.func20,Tryz.ntmps20
 go_wp2_with (first
  | (go_at_call 35;refine (GR.out W b0.out).mono ?_;clear GR;rintro e w3 ⟨rfl,hc3⟩;have hc3:=hid hc3;obtain ⟨q0,q1,q2,q3,q4⟩:=hz.out w3 hc3.out)
  | (go_at_call 35;refine (GR'.out w3 hc3.out).mono ?_;clear GR';rintro e w4 ⟨rfl,hc4⟩;have hc4:=hid (a_ hc3.out hc4)))
 try rw [hs1]
 try rw [hW]
 clear hW hs1 y0 y1 y2 y3 y4 q0 q1 q2 q3 q4 hz;go_loopw [10,11] (fun v i wr=>∃ k:Nat,k≤n∧i=.int .i64 (k:Int)∧Hid (Own wr W.heap.size v (mpL g h (L.take k) M))∧Hid (Below W.heap.size W wr)) (fun _ i _=>n - (intOf i).toNat)
 case atStart=>exact ⟨0,Nat.zero_le _,rfl,hid (j_ x0.out hc4.out),hc4⟩
 case round =>
  clear x0 b0 hc3 hc4;obtain ⟨k,hk,rfl,hO,hbl⟩:=hrel;by_cases hlt:k<n
  · have hltz:(k:Int)<(n:Int):=by omega
    have hkl:k<L.length:=by rw [hn.out];exact hlt
    obtain ⟨bL,oL,e,vkL,zL,hIL⟩:=hatL.out wr hbl.out k hkl;subst e;have hst:=hid (hstep.out k hkl);have hxl:=hmpl.out k;have hye:=hid (hyes.out L[k].1);have hno:=hid (hno.out L[k].1);have hen:=hid (hend.out L[k].1);have hkk:=hid (fun (u:World) (hu:Below wr.heap.size wr u)=>d_ hu zL);have GA:=hid (fun (u:World) (hu:Below wr.heap.size wr u) vb j (hj:j<M.length) (hB:Its u vb M[j].1) (d) (os)=>GA.out u (grow (redrawn u d) os) (a_ hbl.out hu) (below_regrown u d os) vkL vb k j hkl hj (hIL.keep hu) hB);have hO1:=hid (fun (u:World) (hu:Below wr.heap.size wr u)=>j_ hO.out hu);obtain ⟨va,vc,rfl⟩:=p_ hO.out;generalize mpL g h (L.take k) M=X at *;clear zL hstep;obtain ⟨wo,hwo⟩:∃ x,x=wr:=⟨_,rfl⟩;subst hwo;have b9:=hid (Below.refl wo.heap.size wo);go_wp2_with fail
    go_loopw [12,13] (fun z i wr=>∃ j:Nat,j≤m∧i=.int .i64 ((j:Int) - 1)∧z=.int .i64 (atS g h L[k].1 (M.drop j) j)∧Hid (Below wo.heap.size wo wr)) (fun _ i _=>((intOf i)+1).toNat)
    case atStart=>exact ⟨m,Nat.le_refl _,by go_num,by rw [hen.out],b9⟩
    case round =>
     clear b9 hen;obtain ⟨j,hj,rfl,rfl,hbq⟩:=hrel;by_cases hj0:0<j
     · obtain ⟨i,rfl⟩:∃ i,j=i+1:=⟨j - 1,by omega⟩
       have hiz:((i+1:Nat):Int) - 1=(i:Int):=by omega
       rw [hiz];have him:i<M.length:=by rw [hm.out];omega
       have hiz2:(0:Int)≤(i:Int):=by omega
       have hiz3:(i:Int)<(m:Int):=by omega
       have hblq:=hid (a_ hbl.out hbq.out);obtain ⟨y0,y1,y2,y3,y4⟩:=hk1.out wr hblq.out;obtain ⟨q0,q1,q2,q3,q4⟩:=hk2.out wr hblq.out;obtain ⟨bM,oM,e,vkM,zM,hIM⟩:=hatM.out wr hblq.out i him;subst e;have e0:=cell_regrown y0;have e1:=cell_regrown y1;have e2:=cell_regrown y2;have e3:=cell_regrown y3;have e4:=cell_regrown y4;have v0:=cell_regrown q0;have v1:=cell_regrown q1;have v2:=cell_regrown q2;have v3:=cell_regrown q3;have v4:=cell_regrown q4;have f0:=cell_regrown (hkk.out wr hbq.out);have f1:=cell_regrown zM;have cA:Hid (∀ d os,Calls Tryz.prog 36 #[gmA rv nv lv pv st,gmA rv' nv' lv' pv' st',vkL,vkM] (grow (redrawn wr d) os) fun e w''=>e=.returned (.bool (b5g g h L[k].1 M[i].1))∧∃ p:Regrown,w''=grow (redrawn wr p.d) p.os):=hid (fun d os=>Calls.regrown_of (GA.out wr hbq.out vkM i him hIM d os));have hye:=hid (hye.out i him);have hno:=hid (hno.out i him);generalize b5g g h L[k].1 M[i].1=B9 at *;generalize atS g h L[k].1 (M.drop (i+1)) (i+1)=t9 at *;clear y0 y1 y2 y3 y4 q0 q1 q2 q3 q4 zM;cases B9 with
       | true =>
        have hy:=hid (hye.out rfl);clear hye hno;go_wp2_with fail
        refine wp_region_quiet_below (by kernel_rfl) (by kernel_rfl) ?_
        repeat (first | go_big_quiet_step (exact cA.out _ _) | quiet_step (exact cA.out _ _))
        refine wpQuiet_nil ?_;intro _ hw';obtain ⟨⟨dq,osq⟩,hw''⟩:=hw';subst hw'';have hq2:=hid (a_ hbq.out (below_regrown wr dq osq));generalize grow (redrawn wr dq) osq=wy at *;clear e0 e1 e2 e3 e4 f0 f1 v0 v1 v2 v3 v4 cA;go_wp2;go_roundw
        case rel=>exact ⟨i,by omega,by go_num,by rw [hy.out],hq2⟩
        case measure=>simp [intOf] <;> omega
       | false =>
        have hy:=hid (hno.out rfl);clear hye hno;go_wp2_with fail
        refine wp_region_quiet_below (by kernel_rfl) (by kernel_rfl) ?_
        repeat (first | go_big_quiet_step (exact cA.out _ _) | quiet_step (exact cA.out _ _))
        refine wpQuiet_nil ?_;intro _ hw';obtain ⟨⟨dq,osq⟩,hw''⟩:=hw';subst hw'';have hq2:=hid (a_ hbq.out (below_regrown wr dq osq));generalize grow (redrawn wr dq) osq=wy at *;clear e0 e1 e2 e3 e4 f0 f1 v0 v1 v2 v3 v4 cA;go_wp2;go_roundw
        case rel=>exact ⟨i,by omega,by go_num,by rw [hy.out],hq2⟩
        case measure=>simp [intOf] <;> omega
     · obtain rfl:j=0:=by omega
       have hO2:=hid (hO1.out wr hbq.out);have hB2:=hid (a_ hbl.out hbq.out);generalize atS g h L[k].1 (M.drop 0) 0=t9 at *;clear hye hno hkk GA hO1 hO;go_wp2_with (at_builtin;refine a9l _ rfl _ _ rfl W.heap.size X [t9] _ _ rfl rfl (hO2.out.alloc _) (Nums.of_row (Own.lit1 _ _)) (by simp;omega) (by have:=hB2.out.size;simp;omega) ?_;intro v' w2 hO3 hb3)
       have hO4:=hid hO3;have hb4:=hid ((hB2.out.trans ((al' _ _).mono hB2.out.size)).trans hb3);go_roundw
       case rel=>exact ⟨k+1,by omega,by go_num,by rw [hst.out];exact hO4,hb4⟩
       case measure=>simp [intOf];omega
  · have hltz:¬ (k:Int)<(n:Int):=by omega
    obtain rfl:k=n:=by omega
    rw [hfin.out] at hO;go_wp2;go_ret2;exact ⟨⟨_,rfl,Nums.of_row hO.out⟩,a_ hlow.out hbl.out⟩
structure AutM (w0:World):Prop where
 map:∀ (g h:Gm) (rv nv lv pv rv' nv' lv' pv' vl vm:Value) (L M:List St) (u:World),Below w0.heap.size w0 u→FitsH g→FitsH h→GmV u rv nv lv pv g→GmV u rv' nv' lv' pv' h→Sts u vl L→Sts u vm M→L.length≤240→M.length≤240→(∀ x:St,x∈L→x.1.length≤1000∧x.2.length≤1000)→(∀ x:St,x∈M→x.1.length≤1000∧x.2.length≤1000) →
  Calls Tryz.prog 19 #[vl,vm,gmA rv nv lv pv g.start,gmA rv' nv' lv' pv' h.start] u fun e w'=>((a1s g L=true∧a1s h M=true)→∃ v,e=.returned (.tuple #[v,.int .i64 0])∧Nums w' v (mpL g h L M))∧(¬ (a1s g L=true∧a1s h M=true)→∃ v,e=.returned (.tuple #[v,.int .i64 10])∧Nums w' v [])∧Below u.heap.size u w'
section
variable {w:World} {m n:Nat} {M:Txt→Option Int}
theorem OwnMi.cast {M':Txt→Option Int} (h:OwnMi w m n M) (e:M=M'):OwnMi w m n M':=e▸h
end
end Go.Proofs.YtjgedijclkoemaaGreatDoor
namespace Go.Proofs.YtjgedijclkoemaaGreatDoor
open Go.RowKit Go.Maps
theorem c1I {l:List Rl} {k:Nat} (hk:k<l.length) (hs:l[k].skip=false):(a2S l l.length)[a3z l k+1]?=some l[k].name:=by
 have h1:a2S l l.length=a2S l (k+1)++((l.drop (k+1)).filter fun r=>!r.skip).map Rl.name:=by
  unfold a2S;rw [List.cons_append,← List.map_append,← List.filter_append,List.take_append_drop,List.take_length]
 have h2:=a7A hk;rw [hs,if_neg (by decide)] at h2;have h3:=a2q l k;rw [h1,h2,List.append_assoc,List.getElem?_append_right (by omega),h3,Nat.sub_self];rfl
theorem b1A {g:Gm} {k:Nat} (hk:k<g.rules.length) (hs:g.rules[k].skip=false) {n:Int} (hn:n=(a3z g.rules k:Int)+1):g.name n=g.rules[k].name:=by
 unfold Gm.name Gm.names;have h3:=a2q g.rules g.rules.length;have h4:=c1I hk hs;have h5:=(List.getElem?_eq_some_iff.1 h4).1;rw [if_neg (by omega),show n.toNat=a3z g.rules k+1 by omega,List.getD_eq_getElem?_getD,List.getElem?_append_left h5,h4];rfl
theorem b1C {g:Gm} {n:Int} (hn:(g.terms:Int)+(g.nonts.length:Int)<n):g.name n=[]:=by
 unfold Gm.name Gm.names;have h3:=a2q g.rules g.rules.length;unfold Gm.terms at hn;rw [if_neg (by omega),List.getD_eq_getElem?_getD,List.getElem?_eq_none (by rw [List.length_append,h3];omega)];rfl
theorem b1B {g:Gm} {j:Nat} (hj:j<g.nonts.length) {n:Int} (hn:n=(g.terms:Int)+1+(j:Int)):g.name n=g.nonts[j]:=by
 unfold Gm.name Gm.names;have h3:=a2q g.rules g.rules.length;unfold Gm.terms at hn;rw [if_neg (by omega),List.getD_eq_getElem?_getD,List.getElem?_append_right (by omega),show n.toNat - (a2S g.rules g.rules.length).length=j by omega,List.getElem?_eq_getElem hj];rfl
set_option maxRecDepth 20000 in
set_option maxHeartbeats 8000000 in
theorem c2i (g:Gm) (n:Int) (rv nv lv pv:Value) (w:World) (hV:GmV w rv nv lv pv g) (hn:n≤9223372036854775807) (hr:g.rules.length≤1000000) (_hN:g.nonts.length≤1000000) :
 Calls Tryz.prog 152 #[gmA rv nv lv pv g.start,.int .i64 n] w fun e w'=>e=.returned (.string (e_ (g.name n)))∧Below w.heap.size w w':=by
 have h0:Hid (∀ u,Below w.heap.size w u→RulL u rv g.rules∧Lst 1 a4F u nv g.nonts):=hid (fun u hu=>⟨(b2B hV.rules).keep hu,(hV.keep hu).nonts⟩);obtain ⟨a,c,rfl⟩:=hV.rules.shape;obtain ⟨na,nc,rfl⟩:=hV.nonts.shape;clear hV;have hA:Hid (∀ k (hk:k<g.rules.length),g.rules[k].skip=false→n=(a3z g.rules k:Int)+1→e_ (g.name n)=e_ g.rules[k].name):=hid (fun k hk hs h=>by rw [b1A hk hs h]);have hB:Hid ((g.terms:Int)+(g.nonts.length:Int)<n→e_ (g.name n)=⟨#[]⟩):=hid (fun h=>by rw [b1C h];rfl);have hC:Hid (∀ j (hj:j<g.nonts.length),n=(g.terms:Int)+1+(j:Int)→e_ (g.name n)=e_ g.nonts[j]):=hid (fun j hj h=>by rw [b1B hj h]);have hZ:Hid (n=0→e_ (g.name n)=⟨#[36]⟩):=hid (fun h=>by subst h;rfl);have hY:Hid (n<0→e_ (g.name n)=⟨#[]⟩):=hid (fun h=>by unfold Gm.name;rw [if_pos h];rfl);have hT:Hid (g.terms=a3z g.rules g.rules.length):=hid rfl;have hB1:Hid (Below w.heap.size w (w.alloc (.cells #[.slice a g.rules.length c,.slice na g.nonts.length nc,lv,pv,.int .i64 g.start] 27))):=hid (al' w _);have hk1:=b_ w (.cells #[.slice a g.rules.length c,.slice na g.nonts.length nc,lv,pv,.int .i64 g.start] 27);generalize e_ (g.name n)=U at *;generalize g.terms=tm at *;obtain ⟨W1,hW1⟩:∃ x,w.alloc (.cells #[.slice a g.rules.length c,.slice na g.nonts.length nc,lv,pv,.int .i64 g.start] 27)=x:=⟨_,rfl⟩;rw [hW1] at hB1 hk1;have c0:W1.cell? ⟨w.heap.size,0,none⟩=some (.slice a g.rules.length c):=c_ hk1 rfl;have hk1:=hid hk1;generalize hl:g.rules=l at *
 generalize hns:g.nonts=ns at *;obtain ⟨m,hm⟩:∃ n,Hid (l.length=n):=⟨_,hid rfl⟩;obtain ⟨nn,hnn⟩:∃ n,Hid (ns.length=n):=⟨_,hid rfl⟩;rw [hm.out] at hr c0 hW1 hk1 hT h0 ⊢;rw [hnn.out] at hW1 hk1 hB h0 ⊢;clear hl hns;rcases Int.lt_trichotomy n 0 with hneg | hzero | hpos
 · have h9:=hY.out hneg
   subst h9;have hne:(n == 0)=false:=by simp;omega
   clear hA hB hC hZ hY hT h0 hk1 c0;go_enter Tryz.func152,Tryz.ntmps152
   go_wp2;go_ret;exact ⟨rfl,hB1.out⟩
 · have h9:=hZ.out hzero
   subst h9 hzero;clear hA hB hC hZ hY hT h0 hk1 c0;go_enter Tryz.func152,Tryz.ntmps152
   go_wp2;go_ret;exact ⟨rfl,hB1.out⟩
 · have hne:(n == 0)=false:=by simp;omega
   have hnl:¬ n<0:=by omega
   clear hZ hY;go_enter Tryz.func152,Tryz.ntmps152
   go_wp2;clear hW1 c0 hne hnl;go_loopw [1,14] (fun x i wr=>∃ (k:Nat) (y:Int),k≤m∧i=.int .i64 (k:Int)∧x=.int .i64 y∧0<y∧y≤9223372036854775807∧Hid (y+(a3z l k:Int)=n)∧Hid (Below W1.heap.size W1 wr)) (fun _ i _=>m - (intOf i).toNat)
   case atStart=>exact ⟨0,n,Nat.zero_le _,rfl,rfl,hpos,hn,hid (by unfold a3z;simp),hid (Below.refl _ _)⟩
   case round =>
    obtain ⟨k,y,hk,rfl,rfl,hy0,hy1,hyn,hw⟩:=hrel;by_cases hlt:k<m
    · have hltz:(k:Int)<(m:Int):=by omega
      have hkl:k<l.length:=by rw [hm.out];exact hlt
      obtain ⟨b,o,xa,xm,xc,he,x0,x1,x2⟩:=(h0.out wr (a_ hB1.out hw.out)).1.at hkl;subst he;have hs:=a3T hkl;have hwn:=hid (a_ hw.out (al' wr (.cells #[.string (e_ l[k].name),.slice xa xm xc,.bool l[k].skip] 62)));cases hsk:l[k].skip with
      | true =>
       rw [hsk] at x2 hs hwn;rw [if_pos rfl,Nat.add_zero] at hs;have hsH:=hid hs;clear hs;go_wp2;go_roundw
       case rel=>exact ⟨k+1,y,by omega,by go_num,rfl,hy0,hy1,hid (by rw [hsH.out];exact hyn.out),hwn⟩
       case measure=>simp [intOf];omega
      | false =>
       rw [hsk] at x2 hs hwn;rw [if_neg (by decide)] at hs;have hsH:=hid hs;clear hs;by_cases h1:y=1
       · have hU:=hA.out k hkl hsk (by have:=hyn.out;omega)
         subst h1;rw [← hU] at x0 hwn;clear hU;go_wp2;go_ret;exact ⟨rfl,a_ hB1.out hwn.out⟩
       · have h2:(y - 1 == 0)=false:=by simp;omega
         go_wp2;go_roundw
         case rel=>exact ⟨k+1,y - 1,by omega,by go_num,by go_num,by omega,by omega,hid (by rw [hsH.out];have:=hyn.out;omega),hwn⟩
         case measure=>simp [intOf];omega
    · have hltz:¬ (k:Int)<(m:Int):=by omega
      obtain rfl:k=m:=by omega
      have hkk:=g_ hk1.out hw.out;have c1:wr.cell? ⟨w.heap.size,1,none⟩=some (.slice na nn nc):=c_ hkk rfl;clear hkk;have hyt:Hid (y+(tm:Int)=n):=hid (by rw [hT.out];exact hyn.out);by_cases hgt:(nn:Int)<y
      · have hU:=hB.out (by have:=hyt.out;omega)
        subst hU;go_wp2;go_ret;exact ⟨rfl,a_ hB1.out hw.out⟩
      · obtain ⟨j,hj⟩:∃ j:Nat,y=(j:Int)+1:=⟨(y - 1).toNat,by omega⟩
        have hjn:j<ns.length:=by rw [hnn.out];omega
        have hU:=hC.out j hjn (by have:=hyt.out;omega);obtain ⟨b,o,he,-,hx⟩:=(h0.out wr (a_ hB1.out hw.out)).2.at hjn;subst he;have hx:wr.cell? ⟨b,o+j * 1,none⟩=some (.string (e_ ns[j])):=hx;rw [Nat.mul_one] at hx;rw [← hU] at hx;clear hU hyt hyn;subst hj;go_wp2;go_ret;exact ⟨rfl,a_ hB1.out hw.out⟩
set_option maxRecDepth 20000 in
set_option maxHeartbeats 8000000 in
theorem c2j (g:Gm) (n:Int) (rv nv lv pv:Value) (w:World) (hV:GmV w rv nv lv pv g) (hn:n≤9223372036854775807) (hB:BndG g) (hnm:(g.name n).length≤281474976710656) :
 Calls Tryz.prog 103 #[gmA rv nv lv pv g.start,.int .i64 n] w fun e w'=>e=.returned (.string (e_ (g.name n)))∧Below w.heap.size w w':=by
 have hb:=hB;obtain ⟨a,c,rfl⟩:=hV.rules.shape;obtain ⟨na,nc,rfl⟩:=hV.nonts.shape;obtain ⟨la,lc,rfl⟩:=hV.levels.shape;obtain ⟨pa,pc,rfl⟩:=hV.prods.shape;have hal:=al' w (.cells #[.slice a g.rules.length c,.slice na g.nonts.length nc,.slice la g.levels.length lc,.slice pa g.prods.length pc,.int .i64 g.start] 27);have hk1:=b_ w (.cells #[.slice a g.rules.length c,.slice na g.nonts.length nc,.slice la g.levels.length lc,.slice pa g.prods.length pc,.int .i64 g.start] 27);have hV1:=hV.keep hal;obtain ⟨W1,hW1⟩:∃ x,w.alloc (.cells #[.slice a g.rules.length c,.slice na g.nonts.length nc,.slice la g.levels.length lc,.slice pa g.prods.length pc,.int .i64 g.start] 27)=x:=⟨_,rfl⟩;rw [hW1] at hal hk1 hV1;have GN:=hid (c2i g n _ _ _ _ W1 hV1 hn (by have:=hb.rules;omega) (by have:=hb.nonts;omega));have GC:=hid (fun u=>b4J (e_ (g.name n)) u (by have:=o_ (g.name n);omega));have hB1:=hid hal;obtain ⟨y0,y1,y2,y3,y4⟩:=l_ hk1;clear hal hk1 hV hV1 hb hB hnm;generalize e_ (g.name n)=U at *;generalize g.rules.length=rn at *;generalize g.nonts.length=nn at *;generalize g.levels.length=ll at *;generalize g.prods.length=pp at *;generalize g.start=st at *;go_enter Tryz.func103,Tryz.ntmps103
 go_wp2_with (first
  | (go_at_call 152;refine GN.out.mono ?_;clear GN;rintro e w2 ⟨rfl,h2⟩;have h2:=hid (a_ hB1.out h2))
  | (go_at_call 85;refine (GC.out _).mono ?_;clear GC;rintro e w3 ⟨rfl,h3⟩;have h3:=hid (a_ h2.out h3)))
 go_ret;exact ⟨rfl,h3.out⟩
set_option maxRecDepth 20000 in
theorem c1a:(Tryz.prog.info? 150).map (fun i=>i.size)=some 2:=by kernel_rfl
set_option maxRecDepth 20000 in
theorem b9I:liesAt Tryz.prog Tryz.prog.depth 150 (2 / Tryz.prog.cellsOf 150) 0 150 1=true:=by kernel_rfl
abbrev c4H (w:World) (B b:Nat) (bs:List Value):Prop:=Lib.BuilderAt 150 5 B b (.pointer (some ⟨b,0,none⟩)) bs w
abbrev b8v (w:World) (B b:Nat) (bs:List Value):Prop:=Lib.IsBuilder 150 5 B b bs w
set_option maxRecDepth 20000 in
set_option maxHeartbeats 1000000 in
theorem c0v (b:Nat) (w:World) (h0:w.cell? ⟨b,0,none⟩=some (.pointer (some ⟨b,0,none⟩))) :
 Calls Tryz.prog 116 #[.pointer (some ⟨b,0,none⟩)] w fun e w'=>e=.returned (.tuple #[])∧w'=w:=by
 obtain ⟨j,hj,_⟩:=Option.map_eq_some_iff.1 c1a;have hne:=Lib.run_neq_ptr_same (P:=Tryz.prog) w ⟨b,0,none⟩ Tryz.underlying148 hj;go_enter Tryz.func116,Tryz.ntmps116
 go_wp2;go_end0
 exact ⟨rfl,rfl⟩
set_option maxRecDepth 20000 in
set_option maxHeartbeats 1000000 in
theorem b7p (b:Nat) (w:World) (h0:w.cell? ⟨b,0,none⟩=some (.pointer none)) (hsh:w.shape? b=some (150,2)) (hfz:w.frozen? ⟨b,0,none⟩=false) :
 Calls Tryz.prog 116 #[.pointer (some ⟨b,0,none⟩)] w fun e w'=>e=.returned (.tuple #[])∧w'=w.setCell ⟨b,0,none⟩ (.pointer (some ⟨b,0,none⟩)):=by
 obtain ⟨j,hj,hjs⟩:=Option.map_eq_some_iff.1 c1a;have r1:=Lib.run_to_unsafe (P:=Tryz.prog) w ⟨b,0,none⟩ Tryz.underlying148 Tryz.underlying216 hj (by rw [hjs];decide) hsh (Nat.zero_lt_succ 1);have r2:=Lib.run_from_unsafe (P:=Tryz.prog) w ⟨b,0,none⟩ Tryz.underlying216 Tryz.underlying148 hj hsh b9I
 have r3:∀ (x:Value) (u:World),(callFunc 163 #[x]).run Tryz.prog u=.ok (.value x) u:=fun x u=>by
  rw [run_callFunc_extern Tryz.func163 (by kernel_rfl) (by kernel_rfl) (by kernel_rfl) (e:=Extern.AbiNoEscape.same) (by kernel_rfl),Lib.run_noEscape];rfl
 go_enter Tryz.func116,Tryz.ntmps116
 go_wp2;go_end0
 exact ⟨rfl,rfl⟩
set_option maxRecDepth 20000 in
theorem c4X (B b:Nat) (bs:List Value) (w:World) (h:b8v w B b bs) :
 Calls Tryz.prog 116 #[.pointer (some ⟨b,0,none⟩)] w fun e w'=>e=.returned (.tuple #[])∧c4H w' B b bs∧Below B w w'∧Lib.OthersKept 5 (some b) w w':=by
 rcases h with h | h
 · refine (b7p b w h.cell0 h.shape h.frozen0).mono ?_
   rintro e w' ⟨rfl,rfl⟩;exact ⟨rfl,h.used _,(Below.refl B w).setCell (p:=⟨b,0,none⟩) h.1 _,(Lib.OthersKept.refl _ _ w).setCell ⟨b,0,none⟩ rfl _⟩
 · refine (c0v b w h.cell0).mono ?_
   rintro e w' ⟨rfl,rfl⟩;exact ⟨rfl,h,Below.refl B _,Lib.OthersKept.refl _ _ _⟩
set_option maxRecDepth 20000 in
set_option maxHeartbeats 2000000 in
theorem b9c (B b:Nat) (t s:Txt) (w:World) (h:b8v w B b (Lib.byteCells t)) (hlen:t.length+s.length≤1000000000) (hBw:B≤w.heap.size) :
 Calls Tryz.prog 81 #[.pointer (some ⟨b,0,none⟩),.string (e_ s)] w fun e w'=>e=.returned (.tuple #[.int .i64 (s.length:Int),.nilIface])∧c4H w' B b (Lib.byteCells (t++s))∧Below B w w'∧Lib.OthersKept 5 (some b) w w':=by
 have hsz:=o_ s;obtain ⟨i0,hi,hz0,hz1,hz2⟩:=info_parts c0Z;have GC:=hid (c4X B b _ w h);have happ:Hid (Lib.byteCells t++Lib.strCells (e_ s)=Lib.byteCells (t++s)):=hid (by rw [Lib.byteCells_append];rfl);go_enter Tryz.func81,Tryz.ntmps81
 go_wp2_with (go_at_call 116;refine GC.out.mono ?_;clear GC)
 rintro e w1 ⟨rfl,h1,hb1,hk1⟩;obtain ⟨hB,v,hbk,hown,hne⟩:=h1;rw [Lib.byteCells_length] at hown;obtain ⟨c0,c1,-,-⟩:=b4N hbk;have hbs:=hb1.size;have hlt:=u_ hbk;go_wp2_with (at_builtin;refine Lib.wpList_append_own_string _ rfl _ _ 137 9 rfl B 5 i0 Tryz.underlying137 Tryz.underlying9 hi hz0 hz1 hz2 _ _ _ rfl hown (e_ s) rfl (by (unfold maxLen);omega) (by omega) (by omega) ?_)
 intro v' w2 hown' hgrow _;have hb2:w2.heap[b]?=some (.cells #[.pointer (some ⟨b,0,none⟩),v] 150 (0,0)):=(hgrow.block b hlt (fun e=>hne e.symm)).trans hbk;obtain ⟨d0,d1,-,f1⟩:=b4N hb2;obtain ⟨ao,cp,hv'⟩:=p_ hown';subst hv';go_wp2;go_ret2;refine ⟨rfl,?_,?_,(hk1.grown hgrow (b8R hown)).setCell ⟨b,1,none⟩ rfl _⟩
 · have:=Lib.BuilderAt.put (T:=150) (e:=5) hB hb2 (bs':=Lib.byteCells t++Lib.strCells (e_ s)) (by rw [List.length_append,Lib.strCells_length,Lib.byteCells_length,o_];exact hown') (by decide)
   rw [happ.out] at this;exact this
 · exact (hb1.grown hgrow (by omega) (fun k hk=>(hown.lt k hk).1)).setCell (p:=⟨b,1,none⟩) hB _
theorem b4T {w u:World} {B b:Nat} {p:Value} {bs:List Value} (h:Lib.BuilderAt 150 5 B b p bs w) (hu:Below w.heap.size w u):Lib.BuilderAt 150 5 B b p bs u:=by
 obtain ⟨hB,v,hbk,hown,hne⟩:=h;exact ⟨hB,v,g_ hbk hu,j_ hown hu,hne⟩
theorem b7w {w u:World} {B b:Nat} {bs:List Value} (h:b8v w B b bs) (hu:Below w.heap.size w u):b8v u B b bs:=h.imp (fun h=>b4T h hu) (fun h=>b4T h hu)
theorem c2V (w:World):b8v (w.alloc (.cells #[.pointer none,.slice none 0 0] 150)) w.heap.size w.heap.size (Lib.byteCells []):=
 .inl ⟨Nat.le_refl _,.slice none 0 0,b_ w _,World.ownsRow_nil _ _ _ _,fun h=>by cases h⟩
end Go.Proofs.YtjgedijclkoemaaGreatDoor
namespace Go.Proofs.YtjgedijclkoemaaGreatDoor
open Go.RowKit Go.Maps Go.Sort
set_option maxRecDepth 20000 in
set_option maxHeartbeats 16000000 in
theorem c3r (rv nv lv pv:Value) (g:Gm) (k:Nat) (w:World) (hV:GmV w rv nv lv pv g) (hk:k<g.prods.length) (hBn:BndG g) (hN:a2H g) (hsym:∀ n∈g.prods[k].prec :: g.prods[k].left :: g.prods[k].right,n≤9223372036854775807) :
 Calls Tryz.prog 76 #[gmA rv nv lv pv g.start,.int .i64 (k:Int)] w fun e w'=>e=.returned (.string (e_ (a6T g g.prods[k])))∧Below w.heap.size w w':=by
 obtain ⟨pa,pc,rfl⟩:=hV.prods.shape;have hB1:=al' w (.cells #[rv,nv,lv,.slice pa g.prods.length pc,.int .i64 g.start] 27);have k1:=b_ w (.cells #[rv,nv,lv,.slice pa g.prods.length pc,.int .i64 g.start] 27);obtain ⟨W,hW⟩:∃ x,w.alloc (.cells #[rv,nv,lv,.slice pa g.prods.length pc,.int .i64 g.start] 27)=x:=⟨_,rfl⟩;rw [hW] at hB1 k1;have hVW:=hV.keep hB1
 obtain ⟨b,o,q1,q3,e,d0,d1,d2,dr⟩:∃ b o q1 q3,pa=some ⟨b,o,none⟩∧W.cell? ⟨b,o+k * 3,none⟩=some (.int .i64 g.prods[k].left)∧W.cell? ⟨b,o+k * 3+1,none⟩=some (.slice q1 g.prods[k].right.length q3)∧W.cell? ⟨b,o+k * 3+2,none⟩=some (.int .i64 g.prods[k].prec)∧Nums W (.slice q1 g.prods[k].right.length q3) g.prods[k].right:=by
  obtain ⟨b,o,e,-,v,h0,h1,h2,hN⟩:=hVW.prods.at hk;obtain ⟨q1,q3,rfl,-⟩:=id hN;exact ⟨b,o,q1,q3,e,h0,h1,h2,hN⟩
 subst e;have hrr:=hBn.right _ (List.getElem_mem hk);have hpl:=hBn.prods;have GN:=hid (fun (j:Int) (hj:j≤9223372036854775807) (u:World) (hu:Below W.heap.size W u)=>c2j g j rv nv lv _ u (hVW.keep hu) hj hBn (by have:=hN j;omega));have hK0:Hid (a6U g g.prods[k] 0=g.name g.prods[k].left++[58]):=hid (by unfold a6U;simp);have hKs:=hid (fun j (hj:j<g.prods[k].right.length)=>a4i (g:=g) (p:=g.prods[k]) hj);have hKe:Hid (a6T g g.prods[k]=a6U g g.prods[k] g.prods[k].right.length++[32,37,32]++g.name g.prods[k].prec):=hid rfl;have hKl:=hid (fun j=>a2n hN g.prods[k] j);have hNl:=hid hN;have hsl:=hsym g.prods[k].left (List.mem_cons_of_mem _ List.mem_cons_self);have hsp:=hsym g.prods[k].prec List.mem_cons_self;have hsr:=hid (fun n hn=>hsym n (List.mem_cons_of_mem _ (List.mem_cons_of_mem _ hn)));generalize a6T g g.prods[k]=R at *;generalize a6U g g.prods[k]=F at *;generalize g.prods[k]=pd at *;obtain ⟨rl,hrl⟩:∃ n,Hid (pd.right.length=n):=⟨_,hid rfl⟩;rw [hrl.out] at hrr hKe d1 dr;have hkz:¬ (k:Int)<0:=by omega
 have hkz2:¬ (g.prods.length:Int)≤(k:Int):=by omega
 have hX:=al' W (.cells #[.int .i64 pd.left,.slice q1 rl q3,.int .i64 pd.prec] 64);have x1:=b_ W (.cells #[.int .i64 pd.left,.slice q1 rl q3,.int .i64 pd.prec] 64);obtain ⟨X,hXe⟩:∃ x,W.alloc (.cells #[.int .i64 pd.left,.slice q1 rl q3,.int .i64 pd.prec] 64)=x:=⟨_,rfl⟩;rw [hXe] at hX x1;have hY:=al' X (.cells #[.pointer none,.slice none 0 0] 150);have hNw:=c2V X;obtain ⟨Y,hYe⟩:∃ x,X.alloc (.cells #[.pointer none,.slice none 0 0] 150)=x:=⟨_,rfl⟩;rw [hYe] at hY hNw
 -- all that lies below the builder stays
 have hcs:Hid (∀ u,Below X.heap.size X u→(u.cell? ⟨w.heap.size,0,none⟩=some rv∧u.cell? ⟨w.heap.size,1,none⟩=some nv∧u.cell? ⟨w.heap.size,2,none⟩=some lv∧u.cell? ⟨w.heap.size,3,none⟩=some (.slice (some ⟨b,o,none⟩) g.prods.length pc)∧u.cell? ⟨w.heap.size,4,none⟩=some (.int .i64 g.start))∧u.cell? ⟨W.heap.size,0,none⟩=some (.int .i64 pd.left)∧u.cell? ⟨W.heap.size,1,none⟩=some (.slice q1 rl q3)∧u.cell? ⟨W.heap.size,2,none⟩=some (.int .i64 pd.prec)):=hid (fun u hu=>by
  have g2:=g_ x1 hu;exact ⟨l_ (g_ k1 (a_ hX hu)),c_ g2 rfl,c_ g2 rfl,c_ g2 rfl⟩)
 have hrw:Hid (∀ u,Below X.heap.size X u→∀ j,j<rl→∃ b' o',q1=some ⟨b',o',none⟩∧u.cell? ⟨b',o'+j,none⟩=some (.int .i64 (pd.right.getD j 0))):=hid (fun u hu j hj=>by
  have hh:(.slice q1 rl q3:Value)=.slice q1 pd.right.length q3:=by rw [hrl.out]
  obtain ⟨b',o',cap,e',_,_,hc⟩:=(dr.keep (a_ hX hu)).at (by rw [hrl.out];omega);injection e' with e1 _ _;exact ⟨b',o',e1,Nums.getD hc j (by rw [hrl.out];exact hj)⟩)
 have hbW:=hid (fun u (hu:Below X.heap.size X u)=>a_ hX hu);have hbw:=hid (fun u (hu:Below X.heap.size X u)=>a_ hB1 (a_ hX hu));have GS:=hid (fun (t s:Txt) (u:World) h1 h2 h3=>b9c X.heap.size X.heap.size t s u h1 h2 h3);have GE:=hid (fun (t:Txt) (u:World) h1 h2=>Tryz.Builder_String_any X.heap.size X.heap.size t u h1 h2);have GK:=hid (fun (u u':World) (t:Txt) (h1:b8v u X.heap.size X.heap.size (Lib.byteCells t)) (h2:Below u.heap.size u u')=>b7w h1 h2);have hYY:Hid (b8v Y X.heap.size X.heap.size (Lib.byteCells [])∧Below X.heap.size X Y):=hid ⟨hNw,hY⟩;have hd0:=d_ hX d0;obtain ⟨y0,y1,y2,y3,y4⟩:=l_ k1;have GN0:=hid (fun u (hu:Below W.heap.size W u)=>GN.out pd.left hsl u hu);have GN1:=hid (fun u (hu:Below W.heap.size W u)=>GN.out pd.prec hsp u hu);clear hV hVW hBn hN hsym dr hNw hX hY x1 k1 hB1;generalize g.prods.length=pn at *;generalize g.start=st at *;have hF0:e_ (g.name pd.left)++⟨#[58]⟩=e_ (F 0):=by rw [hK0.out,← a0b];rfl
 have hl0:(F 0).length≤101:=by have:=hKl.out 0;omega
 have s0:(e_ (g.name pd.left)).size≤100:=by rw [o_];exact hNl.out _
 have hc0:∀ u,(Op.stringOp .add (e_ (g.name pd.left)) ⟨#[58]⟩).run Tryz.prog u=.ok (.string (e_ (F 0))) u:=fun u=>by
  rw [← hF0];exact a0y _ _ u (by have:(⟨#[58]⟩:ByteArray).size=1:=rfl;omega)
 generalize e_ (g.name pd.left)=N0 at *;obtain ⟨⟨y0',y1',y2',y3',y4'⟩,-⟩:=hcs.out Y hYY.out.2;have hp0:=(hcs.out Y hYY.out.2).2.1;have hd0:=hid hd0;clear hF0;obtain ⟨RR,hRR⟩:∃ x,Hid (e_ R=x):=⟨_,hid rfl⟩;rw [hRR.out];go_enter Tryz.func76,Tryz.ntmps76
 go_wp2_with (first
  | (go_at_call 103;refine (GN0.out Y (hbW.out Y hYY.out.2)).mono ?_;clear GN0;rintro e w1 ⟨rfl,h1⟩;have hB1:=hid (GK.out Y w1 [] hYY.out.1 h1);have hX1:=hid (a_ hYY.out.2 h1);clear h1)
  | (go_at_call 81;refine (GS.out [] (F 0) w1 hB1.out (by show 0+_≤_;omega) hX1.out.size).mono ?_;rintro e w2 ⟨rfl,hU2,hc2,-⟩;have hU2:=hid hU2;have hw2:=hid (hX1.out.trans hc2);clear hc2;obtain ⟨⟨z0,z1,z2,z3,z4⟩,p0,p1,p2⟩:=hcs.out w2 hw2.out))
 clear y0 y1 y2 y3 y4 y0' y1' y2' y3' y4' z0 z1 z2 z3 z4 p0 p1 p2 hp0 hc0 hW hXe hYe d0 d1 d2 hB1 hX1;go_loopw [32] (fun i wr=>∃ j:Nat,j≤rl∧i=.int .i64 (j:Int)∧Hid (b8v wr X.heap.size X.heap.size (Lib.byteCells (F j)))∧Hid (Below X.heap.size X wr)) (fun i _=>rl - (intOf i).toNat)
 case atStart=>exact ⟨0,Nat.zero_le _,rfl,hid (.inr hU2.out),hw2⟩
 case round =>
  obtain ⟨j,hj,rfl,hB,hw⟩:=hrel;obtain ⟨⟨z0,z1,z2,z3,z4⟩,p0,p1,p2⟩:=hcs.out wr hw.out;have hwsz:=hw.out.size;by_cases hlt:j<rl
  · have hltz:(j:Int)<(rl:Int):=by omega
    have hjl:j<pd.right.length:=by rw [hrl.out];exact hlt
    obtain ⟨b',o',rfl,c0⟩:=hrw.out wr hw.out j hlt
    have hin:pd.right.getD j 0∈pd.right:=by
     rw [List.getD_eq_getElem?_getD,List.getElem?_eq_getElem hjl,Option.getD_some];exact List.getElem_mem hjl
    have GN9:=hid (GN.out (pd.right.getD j 0) (hsr.out _ hin) wr (hbW.out wr hw.out));have hs9:=hKs.out j hjl;have e9:pd.right[j]=pd.right.getD j 0:=by rw [List.getD_eq_getElem?_getD,List.getElem?_eq_getElem hjl,Option.getD_some]
    rw [e9] at hs9;clear e9 hin;have s0:(e_ (g.name (pd.right.getD j 0))).size≤100:=by rw [o_];exact hNl.out _
    have hl1:(32 :: g.name (pd.right.getD j 0)).length≤101:=by rw [List.length_cons];have:=hNl.out (pd.right.getD j 0);omega
    have hl2:(F j).length≤200000:=by have:=hKl.out j;omega
    have hc0:∀ u,(Op.stringOp .add ⟨#[32]⟩ (e_ (g.name (pd.right.getD j 0)))).run Tryz.prog u=.ok (.string (e_ (32 :: g.name (pd.right.getD j 0)))) u:=fun u=>by
     rw [show e_ (32 :: g.name (pd.right.getD j 0))=⟨#[32]⟩++e_ (g.name (pd.right.getD j 0)) by rw [show (32 :: g.name (pd.right.getD j 0))=[32]++g.name (pd.right.getD j 0) from rfl,← a0b];rfl];exact a0y _ _ u (by have:(⟨#[32]⟩:ByteArray).size=1:=rfl;omega)
    generalize e_ (g.name (pd.right.getD j 0))=N9 at *;generalize 32 :: g.name (pd.right.getD j 0)=T9 at *;generalize pd.right.getD j 0=x9 at *;have hs9:=hid hs9;obtain ⟨T,hT⟩:∃ T,Hid (F j=T):=⟨_,hid rfl⟩;rw [hT.out] at hB hl2;have hs9:Hid (F (j+1)=T++T9):=hid (by rw [← hT.out];exact hs9.out)
    go_wp2_with (first
     | (go_at_call 103;refine GN9.out.mono ?_;clear GN9;rintro e w1 ⟨rfl,h1⟩;have hB1:=hid (GK.out wr w1 T hB.out h1);have hX1:=hid (a_ hw.out h1);clear h1)
     | (go_at_call 81;refine (GS.out T T9 w1 hB1.out (by omega) hX1.out.size).mono ?_;rintro e w2 ⟨rfl,hU2,hc2,-⟩;have hU2:=hid hU2;have hw2:=hid (hX1.out.trans hc2);clear hc2))
    go_roundw
    case rel=>exact ⟨j+1,by omega,by go_num,hid (.inr (by rw [hs9.out];exact hU2.out)),hw2⟩
    case measure=>simp [intOf];omega
  · have hltz:¬ (j:Int)<(rl:Int):=by omega
    obtain rfl:rl=j:=by omega
    have GN9:=hid (GN1.out wr (hbW.out wr hw.out));have s0:(e_ (g.name pd.prec)).size≤100:=by rw [o_];exact hNl.out _
    have hl1:([32,37,32]++g.name pd.prec).length≤103:=by rw [List.length_append];have:=hNl.out pd.prec;show 3+_≤_;omega
    have hl2:(F rl).length≤200000:=by have:=hKl.out rl;omega
    have hc0:∀ u,(Op.stringOp .add ⟨#[32,37,32]⟩ (e_ (g.name pd.prec))).run Tryz.prog u=.ok (.string (e_ ([32,37,32]++g.name pd.prec))) u:=fun u=>by
     rw [show e_ ([32,37,32]++g.name pd.prec)=⟨#[32,37,32]⟩++e_ (g.name pd.prec) by rw [← a0b];rfl];exact a0y _ _ u (by have:(⟨#[32,37,32]⟩:ByteArray).size=3:=rfl;omega)
    have hKe:Hid (R=F rl++([32,37,32]++g.name pd.prec)):=hid (by rw [hKe.out,List.append_assoc]);generalize e_ (g.name pd.prec)=N9 at *;generalize [32,37,32]++g.name pd.prec=T9 at *;obtain ⟨T,hT⟩:∃ T,Hid (F rl=T):=⟨_,hid rfl⟩;rw [hT.out] at hB hl2 hKe;clear hltz hlt hj
    go_wp2_with (first
     | (go_at_call 103;refine GN9.out.mono ?_;clear GN9;rintro e w1 ⟨rfl,h1⟩;have hB1:=hid (GK.out wr w1 T hB.out h1);have hX1:=hid (a_ hw.out h1);clear h1)
     | (go_at_call 81;refine (GS.out T T9 w1 hB1.out (by omega) hX1.out.size).mono ?_;rintro e w2 ⟨rfl,hU2,hc2,-⟩;have hU2:=hid hU2;have hw2:=hid (hX1.out.trans hc2);clear hc2)
     | (go_at_call 82;refine (GE.out (T++T9) w2 (.inr hU2.out) hw2.out.size).mono ?_;rintro e w3 ⟨rfl,hc3⟩;have hw3:=hid (hw2.out.trans hc3)))
    go_ret;exact ⟨by rw [← hRR.out,hKe.out];rfl,hbw.out _ hw3.out⟩
theorem a3V (s:Txt):(e_ s).data.toList=s:=rfl
set_option maxRecDepth 20000 in
theorem c3Z {u:World} {B:Nat} {v:Value} {l:List Txt} (h:OwnT u B v l) (sep:Txt) (hN:l.length≤100000) (hl:(Lib.join l sep).length≤100000000) :
 Calls Tryz.prog 60 #[v,.string (e_ sep)] u fun e w'=>e=.returned (.string (e_ (Lib.join l sep)))∧Below u.heap.size u w':=by
 have hmap:(l.map e_).map (·.data.toList)=l:=by
  rw [List.map_map];exact (List.map_congr_left (fun x _=>a3V x)).trans (List.map_id _)
 rcases Nat.eq_zero_or_pos l.length with h0 | h0
 · have hl0:=List.eq_nil_of_length_eq_zero h0
   subst hl0;obtain ⟨a,c,rfl⟩:=p_ h;refine (Tryz.strings_Join_none a c (e_ sep) u).mono ?_;rintro e w' ⟨rfl,rfl⟩;exact ⟨rfl,Below.refl _ _⟩
 · obtain ⟨g,c,rfl,hc⟩:=a2p h h0
   have hcap:l.length≤c:=hc;have hlt:g<u.heap.size:=(h.lt g rfl).2
   have hcells:∀ (j:Nat) x,(l.map e_)[j]?=some x→u.cell? ⟨g,0+j,none⟩=some (.string x):=fun j x hx=>by
    have hj:j<l.length:=by
     rcases Nat.lt_or_ge j l.length with h1 | h1
     · exact h1
     · rw [List.getElem?_eq_none (by rw [List.length_map];exact h1)] at hx;cases hx
    rw [List.getElem?_map,List.getElem?_eq_getElem hj] at hx;injection hx with hx;subst hx;obtain ⟨g',e,hce⟩:=OwnT.at h hj;injection e with e;injection e with e _ _;subst e;rw [Nat.zero_add,hce,List.getD_eq_getElem?_getD,List.getElem?_eq_getElem hj];rfl
   have G:=Tryz.strings_Join g 0 c (l.map e_) (e_ sep) u hcells hlt (by rw [List.length_map];omega) (by rw [List.length_map];exact hcap) (by rw [hmap,a3V];omega);rw [List.length_map,hmap,a3V] at G;exact G
set_option maxRecDepth 20000 in
theorem c4k {w:World} {B:Nat} {v:Value} {l:List Txt} (h:OwnT w B v l) (x:Txt) (hn:l.length≤100000) (hB:B≤w.heap.size) :
 ∃ a c w',(Builtin.append_ #[23,23] 23 #[v,.slice (some ⟨w.heap.size,0,none⟩) 1 1]).run Tryz.prog (w.alloc (.cells #[.string (e_ x)] 9))=.ok (.slice a (l.length+1) c) w'∧OwnT w' B (.slice a (l.length+1) c) (l++[x])∧Below B w w':=by
 obtain ⟨i0,hi,hz0,hz1,hz2⟩:=info_parts Tryz.infoTx;have hO:OwnI w B (fun _=>0) 0 9 1 v l.length (l.map fun t=>.string (e_ t)):=⟨h,fun _ _=>rfl⟩;obtain ⟨a,c,w',hr,hO',hk,-,-⟩:=a0p (tS:=23) (ty:=23) Tryz.underlying23 hi hz0 hz1 hz2 rfl (by decide) hO #[.string (e_ x)] rfl (fun u hu=>by simp at hu;subst hu;rfl) hn (by decide) hB (fun _ _=>rfl);refine ⟨a,c,w',hr,?_,hk.below (fun k e=>(h.lt k e).1) hB⟩;unfold OwnT;rw [List.map_append,List.length_append];exact hO'.1
def a6R (g:Gm):List Txt:=[] :: g.prods.map (a6T g)
theorem a5H (g:Gm):(a6R g).length=g.prods.length+1:=by unfold a6R;rw [List.length_cons,List.length_map]
theorem b8B {g:Gm} {k:Nat} (h:k<(a6R g).length):(a6R g)[k]=txo g ((k:Int) - 1):=by
 rw [a5H] at h;cases k with
 | zero=>rw [a5I (by omega)];rfl
 | succ k =>
  have hk:k<g.prods.length:=by omega
  rw [show ((k+1:Nat):Int) - 1=(k:Int) by omega,a9p hk];simp only [a6R,List.getElem_cons_succ,List.getElem_map]
theorem SndG.sym9 {g:Gm} (h:SndG g) {k:Nat} (hk:k<g.prods.length):∀ n∈g.prods[k].prec :: g.prods[k].left :: g.prods[k].right,n≤9223372036854775807:=fun n hn=>by
 have hp:=h.prod _ (List.getElem_mem hk);unfold pdB at hp;simp only [Bool.and_eq_true,decide_eq_true_eq,List.all_eq_true] at hp;have h1:=h.rules;have h2:=h.nonts;have h3:g.terms≤g.rules.length:=a0d g.rules g.rules.length;have h4:g.all≤32:=by unfold Gm.all;omega
 rw [List.mem_cons,List.mem_cons] at hn;rcases hn with rfl | rfl | hn
 · omega
 · omega
 · have:=hp.2 n hn
   omega
theorem OwnT.one (w:World) (t:Txt):OwnT (w.alloc (.cells #[.string (e_ t)] 9)) w.heap.size (.slice (some ⟨w.heap.size,0,none⟩) 1 1) [t]:=
 World.ownsRow_lit w #[.string (e_ t)] 1 (Nat.le_refl _) (by unfold maxLen;omega) rfl
set_option maxRecDepth 100000 in
set_option maxHeartbeats 8000000 in
theorem b1h (g:Gm) (rv nv lv pv:Value) (w:World) (hu:UsG g) (hf:Fits12 g) (hV:GmV w rv nv lv pv g) :
 Calls Tryz.prog 57 #[gmA rv nv lv pv g.start] w fun e w'=>∃ v,e=.returned v∧OwnT w' w.heap.size v (a6R g)∧Below w.heap.size w w':=by
 obtain ⟨pa,pc,rfl⟩:=hV.prods.shape;have hB1:=al' w (.cells #[rv,nv,lv,.slice pa g.prods.length pc,.int .i64 g.start] 27);have k1:=b_ w (.cells #[rv,nv,lv,.slice pa g.prods.length pc,.int .i64 g.start] 27);obtain ⟨W,hW⟩:∃ x,w.alloc (.cells #[rv,nv,lv,.slice pa g.prods.length pc,.int .i64 g.start] 27)=x:=⟨_,rfl⟩;rw [hW] at hB1 k1;have GT:=hid (fun k (hk:k<g.prods.length) u (hu':Below w.heap.size w u)=>c3r rv nv lv _ g k u (hV.keep hu') hk hf.bnd hf.nm (hu.snd.sym9 hk));have hpl:g.prods.length≤60:=hf.prods
 have hat:=hid (fun k (hk:k<g.prods.length)=>(by
  unfold a6R;rw [List.take_succ_cons,List.take_succ_cons,List.take_succ_eq_append_getElem (by rw [List.length_map];exact hk),List.getElem_map,List.cons_append]:(a6R g).take (k+1+1)=(a6R g).take (k+1)++[a6T g g.prods[k]]))
 have hlen:=hid (a5H g);have hO1:=OwnT.one W [];have hBq:=al' W (.cells #[.string (e_ [])] 9);obtain ⟨V,hVV⟩:∃ x,W.alloc (.cells #[.string (e_ [])] 9)=x:=⟨_,rfl⟩;rw [hVV] at hO1 hBq;have hVV:W.alloc (.cells #[.string ⟨#[]⟩] 9)=V:=hVV;have k1V:=g_ k1 hBq;have hWs:W.heap.size=w.heap.size+1:=by rw [← hW];exact World.size_alloc ..
 have hkV:=hid (fun u (hu:Below W.heap.size V u)=>l_ (show u.heap[w.heap.size]?=_ from (hu.block _ (by omega)).trans k1V));have hB:=hid (a_ hB1 hBq);have hbas:=hid (show w.heap.size≤W.heap.size from hB1.size);obtain ⟨y0,y1,y2,y3,y4⟩:=l_ k1V;have hO1:Hid (OwnT V W.heap.size (.slice (some ⟨W.heap.size,0,none⟩) 1 1) ((a6R g).take 1)):=hid hO1;have hWV:=hid (show W.heap.size≤V.heap.size from hBq.size);have hbw:=hid (Below.refl W.heap.size V);clear hWs;clear hV hf hu hB1 k1 k1V hBq;generalize hst:g.start=st at *;obtain ⟨pl,hpl9⟩:∃ q,Hid (g.prods.length=q):=⟨_,hid rfl⟩;rw [hpl9.out] at hpl y3 hkV;go_enter Tryz.func57,Tryz.ntmps57
 rw [hpl9.out] at hW;rw [hpl9.out];go_wp2;clear hW hVV y0 y1 y2 y3 y4;go_loopw [3,9] (fun tv i u=>∃ k:Nat,k≤pl∧i=.int .i64 (k:Int)∧Hid (OwnT u W.heap.size tv ((a6R g).take (k+1)))∧Hid (Below W.heap.size V u)) (fun _ i _=>pl - (intOf i).toNat)
 case atStart=>exact ⟨0,Nat.zero_le _,rfl,hO1,hbw⟩
 case round =>
  clear hO1 hbw;obtain ⟨k,hk,rfl,hO,hb⟩:=hrel;obtain ⟨y0,y1,y2,y3,y4⟩:=hkV.out wr hb.out;have hlow:=hid (show Below w.heap.size w wr from hB.out.trans (hb.out.mono hbas.out));by_cases hlt:k<pl
  · have hltz:(k:Int)<(pl:Int):=by omega
    have hkg:k<g.prods.length:=by rw [hpl9.out];exact hlt
    have G:=hid (GT.out k hkg wr hlow.out);have happ:=hid (fun w3 (hc:Below wr.heap.size wr w3)=>c4k (j_ hO.out hc) (a6T g g.prods[k]) (by rw [List.length_take];omega) (Nat.le_trans hWV.out (Nat.le_trans hb.out.size hc.size)));have hstep:=hid (hat.out k hkg);obtain ⟨ta,tc,rfl⟩:=p_ hO.out;rw [← hstep.out] at happ;clear hO GT hstep;generalize ((a6R g).take (k+1)).length=ml at *;generalize a6T g g.prods[k]=tx at *;rw [hpl9.out] at G;clear hkg
    go_wp2_with (first
     | (at_builtin;refine a8q _ rfl _ _ _ rfl _ _ rfl rfl hrun ?_;clear hrun)
     | (go_at_call 76;refine G.out.mono ?_;clear G;rintro e w3 ⟨rfl,hc⟩;obtain ⟨a5,c5,w5,hrun,hO5,hb5⟩:=happ.out w3 hc;have hO5:=hid hO5;have hb5:=hid ((hb.out.trans (hc.mono (Nat.le_trans hWV.out hb.out.size))).trans hb5);clear happ hc))
    go_roundw
    case rel=>exact ⟨k+1,by omega,by go_num,hO5,hb5⟩
    case measure=>simp [intOf];omega
  · have hltz:¬ (k:Int)<(pl:Int):=by omega
    obtain rfl:k=pl:=by omega
    have hO9:=hO.out;rw [List.take_of_length_le (by rw [hlen.out,hpl9.out];omega)] at hO9;obtain ⟨ta,tc,rfl⟩:=p_ hO9;have hO9:=hid hO9;clear hO;go_wp2;go_ret;exact ⟨_,rfl,a0o hO9.out hbas.out,hlow.out⟩
end Go.Proofs.YtjgedijclkoemaaGreatDoor
namespace Go.Proofs.YtjgedijclkoemaaGreatDoor
open Go.Lib
def nmO (g:Gm) (x:It):Txt:=itoa x.2++[32]++txo g x.1
def a6S (l:List Txt):List Txt:=l.mergeSort fun x y=>decide (x≤y)
def a1l (g:Gm) (K:List It):Txt:=join (a6S (K.map (nmO g))) [10]
theorem a0h (l:List Txt):(a6S l).Perm l:=List.mergeSort_perm l _
theorem b5y {l m:List Txt}:a6S l=a6S m↔l.Perm m:=by
 constructor
 · intro h
   exact (a0h l).symm.trans (h▸a0h m)
 · intro h
   have tr:∀ a b c:Txt,decide (a≤b)=true→decide (b≤c)=true→decide (a≤c)=true:=fun a b c h1 h2=>decide_eq_true (List.le_trans (of_decide_eq_true h1) (of_decide_eq_true h2))
   have to:∀ a b:Txt,(decide (a≤b) || decide (b≤a))=true:=fun a b=>by
    rw [Bool.or_eq_true,decide_eq_true_eq,decide_eq_true_eq];exact List.le_total a b
   refine List.Perm.eq_of_pairwise (le:=fun a b:Txt=>decide (a≤b)=true) (fun a b _ _ h1 h2=>List.le_antisymm (of_decide_eq_true h1) (of_decide_eq_true h2)) (List.pairwise_mergeSort tr to l) (List.pairwise_mergeSort tr to m) ?_;exact (a0h l).trans (h.trans (a0h m).symm)
theorem a2o {α:Type} [BEq α] [LawfulBEq α]:∀ {A B:List α},(∀ t∈A,A.count t≤B.count t)→B.length≤A.length→A.Perm B
 | [],B,_,h2=>by
  have:B=[]:=List.eq_nil_of_length_eq_zero (by simpa using h2)
  rw [this]
 | x :: A,B,h1,h2=>by
  have hx:=h1 x List.mem_cons_self;rw [List.count_cons_self] at hx;have hm:x∈B:=List.count_pos_iff.1 (by omega);have hp:=List.perm_cons_erase hm;refine (List.Perm.cons x (a2o (A:=A) (B:=B.erase x) (fun t ht=>?_) ?_)).trans hp.symm
  · have h3:=h1 t (List.mem_cons_of_mem _ ht)
    have h4:=hp.count_eq t;rw [h4] at h3;rw [List.count_cons,List.count_cons] at h3;omega
  · have:=hp.length_eq
    rw [List.length_cons] at this h2;omega
theorem a1X {α β:Type} [DecidableEq α] {f:α→β}:∀ {l m:List α},(∀ x∈l,∀ y∈m,f x=f y→x=y)→(l.map f).Perm (m.map f)→l.Perm m
 | [],m,_,h=>by
  have:m.map f=[]:=List.Perm.nil_eq h |>.symm
  rw [List.map_eq_nil_iff.1 this]
 | x :: l,m,hi,h=>by
  have hm:f x∈m.map f:=h.subset (by simp);obtain ⟨y,hy,e⟩:=List.mem_map.1 hm;have exy:=hi x List.mem_cons_self y hy e.symm;subst exy;have hp:=List.perm_cons_erase hy
  have h2:(f x :: l.map f).Perm (f x :: (m.erase x).map f):=by
   have:=h.trans (hp.map f)
   simpa using this
  exact (List.Perm.cons x (a1X (fun a ha b hb=>hi a (List.mem_cons_of_mem _ ha) b (List.mem_of_mem_erase hb)) (List.Perm.cons_inv h2))).trans hp.symm
def No10 (t:Txt):Prop:=∀ c∈t,c≠10
theorem No10.app {s t:Txt} (h:No10 s) (h':No10 t):No10 (s++t):=fun c hc=>(List.mem_append.1 hc).elim (h c) (h' c)
theorem SndG.no10 {g:Gm} (h:SndG g) (n:Int):No10 (g.name n):=by
 have h9:∀ t∈g.allN,No10 t:=fun t ht c hc e=>by
  have:=h.named t ht
  unfold a0V at this;simp only [Bool.and_eq_true,List.all_eq_true] at this
  have:=this.1.2 c hc
  subst e
  revert this
  decide
 have hall:∀ t∈g.names,No10 t:=fun t ht=>by
  unfold Gm.names a2S at ht;rw [List.mem_append,List.mem_cons,List.mem_map] at ht;rcases ht with (rfl | ⟨r,hr,rfl⟩) | ht
  · intro c hc e
    rw [List.mem_singleton] at hc;subst hc
    revert e
    decide
  · have hr:=(List.mem_filter.1 hr).1
    rw [List.take_length] at hr;exact h9 _ (List.mem_append_left _ (List.mem_map.2 ⟨r,hr,rfl⟩))
  · exact h9 _ (List.mem_append_right _ ht)
 unfold Gm.name;split
 · exact fun c hc=>absurd hc (by simp)
 · rw [List.getD_eq_getElem?_getD]
   cases hq:g.names[n.toNat]? with
   | none=>exact fun c hc=>absurd hc (by simp)
   | some t=>exact hall t (List.mem_of_getElem? hq)
theorem SndG.txo10 {g:Gm} (h:SndG g) (p:Int):No10 (txo g p):=by
 have hp:∀ p:Pd,No10 (a6T g p):=fun p=>by
  unfold a6T a6U;refine ((((h.no10 _).app ?_).app ?_).app ?_).app (h.no10 _)
  · intro c hc e
    subst e
    revert hc
    decide
  · intro c hc e
    obtain ⟨n,_,hn⟩:=List.mem_flatMap.1 hc;rcases List.mem_cons.1 hn with rfl | hn
    · revert e;decide
    · exact h.no10 n c hn e
  · intro c hc e
    subst e
    revert hc
    decide
 unfold txo;split
 · exact fun c hc=>absurd hc (by simp)
 · cases hq:g.prods[p.toNat]? with
   | none=>exact fun c hc=>absurd hc (by simp)
   | some q=>exact hp q
theorem a9W {g:Gm} (h:SndG g) (x:It):nmO g x≠[]∧∀ c∈nmO g x,c≠10:=by
 refine ⟨by unfold nmO;simp,?_⟩;have e0:No10 (itoa x.2):=b1v x.2;have e1:No10 [32]:=fun c hc e=>by subst e;revert hc;decide
 have e:No10 (nmO g x):=(e0.app e1).app (h.txo10 x.1);exact e
def prT (g:Gm) (x:It):Int×Txt:=(x.2,txo g x.1)
theorem b9w {p q:Int×Txt} (h:itoa p.1++[32]++p.2=itoa q.1++[32]++q.2):p=q:=by
 obtain ⟨a,s⟩:=p;obtain ⟨b,t⟩:=q;have h':itoa a++32 :: s=itoa b++32 :: t:=by simpa using h
 obtain ⟨h1,h2⟩:=b4t (a1J a) (a1J b) h';rw [a6u h1,h2]
theorem b9y {p q:Int×Txt} (hp:0≤p.1∧p.1≤200) (hq:0≤q.1∧q.1≤200) (h:p.2++[46]++[UInt8.ofNat (48+p.1.toNat)]=q.2++[46]++[UInt8.ofNat (48+q.1.toNat)]):p=q:=by
 obtain ⟨a,s⟩:=p;obtain ⟨b,t⟩:=q;have h1:=List.append_inj_left' h rfl;have h2:=List.append_inj_right' h rfl;have h3:s=t:=List.append_inj_left' h1 rfl;have h4:=congrArg UInt8.toNat (List.cons.inj h2).1;have hp1:0≤a∧a≤200:=hp;have hq1:0≤b∧b≤200:=hq;have h5:(UInt8.ofNat (48+a.toNat)).toNat=(UInt8.ofNat (48+b.toNat)).toNat:=h4;rw [UInt8.toNat_ofNat',UInt8.toNat_ofNat'] at h5;have h6:a=b:=by omega
 rw [h3,h6]
theorem b0P {g h:Gm} {a b:List It} (hg:SndG g) (hh:SndG h) (ha:b1U g a) (hb:b1U h b):c3e g h a b↔a1l g a=a1l h b:=by
 have e1:c3e g h a b↔(a.map (nam g)).Perm (b.map (nam h)):=by
  constructor
  · intro h9
    refine a2o (fun t ht=>?_) ?_
    · obtain ⟨x,hx,rfl⟩:=List.mem_map.1 ht
      obtain ⟨k,hk,rfl⟩:=List.getElem_of_mem hx;have h8:=h9.1 k hk;unfold cnt at h8;exact Nat.le_of_eq h8
    · rw [List.length_map,List.length_map]
      exact Nat.le_of_eq h9.2.symm
  · intro h9
    refine ⟨fun k hk=>h9.count_eq _,?_⟩
    have:=h9.length_eq
    rwa [List.length_map,List.length_map] at this
 have m1:a.map (nam g)=(a.map (prT g)).map fun p=>p.2++[46]++[UInt8.ofNat (48+p.1.toNat)]:=by rw [List.map_map];rfl
 have m2:b.map (nam h)=(b.map (prT h)).map fun p=>p.2++[46]++[UInt8.ofNat (48+p.1.toNat)]:=by rw [List.map_map];rfl
 have m3:a.map (nmO g)=(a.map (prT g)).map fun p=>itoa p.1++[32]++p.2:=by rw [List.map_map];rfl
 have m4:b.map (nmO h)=(b.map (prT h)).map fun p=>itoa p.1++[32]++p.2:=by rw [List.map_map];rfl
 have e2:(a.map (nam g)).Perm (b.map (nam h))↔(a.map (prT g)).Perm (b.map (prT h)):=by
  rw [m1,m2];refine ⟨fun h9=>a1X (fun x hx y hy e=>?_) h9,fun h9=>h9.map _⟩;obtain ⟨u,hu,rfl⟩:=List.mem_map.1 hx;obtain ⟨v,hv,rfl⟩:=List.mem_map.1 hy;exact b9y (ha u hu).2 (hb v hv).2 e
 have e3:(a.map (nmO g)).Perm (b.map (nmO h))↔(a.map (prT g)).Perm (b.map (prT h)):=by
  rw [m3,m4];exact ⟨fun h9=>a1X (fun x _ y _ e=>b9w e) h9,fun h9=>h9.map _⟩
 rw [e1,e2,← e3,← b5y];unfold a1l join;refine ⟨fun h9=>by rw [h9],fun h9=>a5n (fun t ht=>?_) (fun t ht=>?_) h9⟩
 · obtain ⟨x,_,rfl⟩:=List.mem_map.1 ((a0h _).subset ht)
   exact a9W hg x
 · obtain ⟨x,_,rfl⟩:=List.mem_map.1 ((a0h _).subset ht)
   exact a9W hh x
theorem b7B {g h:Gm} {a b:List It} (hg:SndG g) (hh:SndG h) (ha:b1U g a) (hb:b1U h b):b5g g h a b=decide (a1l g a=a1l h b):=by
 by_cases e:a1l g a=a1l h b
 · rw [b0Q ((b0P hg hh ha hb).2 e),decide_eq_true e]
 · rw [a9i fun h9=>e ((b0P hg hh ha hb).1 h9),decide_eq_false e]
end Go.Proofs.YtjgedijclkoemaaGreatDoor
namespace Go.Proofs.YtjgedijclkoemaaGreatDoor
open Go.RowKit Go.Maps Go.Sort
theorem b2Z {w:World} {B size n:Nat} {e:TypeId} {v:Value} {xs:List Value} (h:w.ownsRow B e size v n xs) (os:Array Obj):(grow w os).ownsRow B e size v n xs:=
 y_ h fun k hk=>by
  have:=(h.lt k hk).2
  unfold grow;rw [Array.getElem?_append_left this]
theorem b7x {B:Nat} {w0 w:World} (h:Below B w0 w) (hB:B≤w.heap.size) (os:Array Obj):Below B w0 (grow w os):=
 ⟨h.os,h.tape,h.output,Nat.le_trans h.size (by unfold grow;rw [Array.size_append];omega),fun k hk=>by
  rw [← h.block k hk];unfold grow;rw [Array.getElem?_append_left (by omega)]⟩
theorem a1D (l:List Txt):(a6S l).length=l.length:=(a0h l).length_eq
set_option maxRecDepth 20000 in
theorem c1i (v:Value) (l:List Txt) (B:Nat) (w:World) (hB:B≤w.heap.size) (hl:l.length≤1000000) (hO:OwnT w B v l) :
 Calls Tryz.prog 59 #[v] w fun e w'=>e=.returned (.tuple #[])∧OwnT w' B v (a6S l)∧Below B w w':=by
 by_cases hv:v=.slice none 0 0
 · subst hv
   have h0:l=[]:=List.length_eq_zero_iff.1 (by rcases hO.2 with ⟨_,h⟩ | ⟨g,cap,cur,h,_⟩;exact h;cases h);subst h0
   exact (Tryz.slices_Sort_string_none none 0 w).mono fun e w' ⟨he,hw⟩=>by
    subst hw;exact ⟨he,by show OwnT _ _ _ (List.mergeSort [] _);rw [List.mergeSort_nil];exact hO,(Below.refl _ _).mono hB⟩
 · obtain ⟨g,cap,rfl,h1,h2,h3,_,_,h4⟩:=Lib.holds_of_ownsRow (enc:=encStr) (zs:=l) hO hv
   refine (Tryz.slices_Sort_string g 0 cap l w h4 h2 (by omega)).mono fun e w' ⟨he,n,os,hw⟩=>?_
   subst hw;refine ⟨he,b2Z (B:=B) ?_ os,b7x (Lib.below_putRow ((Below.refl _ _).mono hB) h1) ?_ os⟩
   · have h9:=Lib.ownsRow_putRow (enc:=encStr) (zs:=l) (ys:=a6S l) (q:=n) (k:=l.length) hO (a1D l) (Nat.le_refl _)
     rw [List.take_of_length_le (by rw [a1D];exact Nat.le_refl _)] at h9;rw [a1D];exact h9
   · rw [size_putRow];exact hB
def a3p {α:Type} (f:α→Txt) (l:List α) (k:Nat):List Txt:=(l.take k).map f++List.replicate (l.length - k) []
section
variable {α:Type} {f:α→Txt} {l:List α} {k:Nat}
theorem b0v (h:k≤l.length):(a3p f l k).length=l.length:=by unfold a3p;rw [List.length_append,List.length_map,List.length_take,List.length_replicate];omega
theorem a7U:a3p f l 0=List.replicate l.length []:=by unfold a3p;simp
theorem b0w:a3p f l l.length=l.map f:=by unfold a3p;rw [List.take_length,Nat.sub_self,List.replicate_zero,List.append_nil]
theorem b0u (h:k<l.length):(a3p f l k).set k (f l[k])=a3p f l (k+1):=by
 unfold a3p;rw [List.set_append_right _ _ (by rw [List.length_map,List.length_take];omega),List.length_map,List.length_take,Nat.min_eq_left (by omega),Nat.sub_self,List.take_succ_eq_append_getElem h,List.map_append,List.append_assoc];congr 1
 rw [show l.length - k=(l.length - (k+1))+1 by omega,List.replicate_succ];rfl
end
set_option maxRecDepth 20000 in
theorem a5h (w:World) (B N:Nat) (hB:B≤w.heap.size) (hN:N≤1000):∃ w',(Instr.makeSlice 23 (.int .i64 (N:Int)) (.int .i64 (N:Int))).run Tryz.prog w=.ok (.slice (some ⟨w.heap.size,0,none⟩) N N) w'∧OwnT w' B (.slice (some ⟨w.heap.size,0,none⟩) N N) (List.replicate N [])∧Below w.heap.size w w':=by
 obtain ⟨i0,hi,hz0,hz1,hz2⟩:=info_parts Tryz.infoTx;obtain ⟨w',h1,h2,h3⟩:=run_make_full (P:=Tryz.prog) w B 23 9 i0 (.string ⟨#[]⟩) 1 Tryz.underlying23 hi hz0 hz1 .i64 .i64 N (by rw [hz2];omega) (by unfold maxLen;omega) hB;refine ⟨w',h1,?_,(Below.refl _ w).grown h3 (Nat.le_refl _) (by simp)⟩;unfold OwnT;rw [List.length_replicate]
 have e:(List.replicate N ([]:Txt)).map (fun t=>Value.string (e_ t))=(madeCells (Value.string ⟨#[]⟩).cells (N * 1)).toList:=by
  rw [List.map_replicate,Nat.mul_one];exact (toList_madeCells_one _ _).symm
 rw [e];exact h2
theorem OwnT.put {w:World} {B g n:Nat} {X:List Txt} (h:OwnT w B (.slice (some ⟨g,0,none⟩) n n) X) (hn:X.length=n) {j:Nat} (hj:j<n) (t:Txt) :
 ((∃ s,w.cell? ⟨g,j,none⟩=some (.string s))∧w.frozen? ⟨g,j,none⟩=false)∧OwnT (w.setCell ⟨g,j,none⟩ (.string (e_ t))) B (.slice (some ⟨g,0,none⟩) n n) (X.set j t)∧∀ N w0,Below N w0 w→N≤g→Below N w0 (w.setCell ⟨g,j,none⟩ (.string (e_ t))):=by
 subst hn;have h1:=World.ownsRow.cells h (g:=g) rfl j (.string (e_ X[j])) (by simp [hj]);rw [Go.WideShapes.add_plain,Nat.zero_add] at h1;obtain ⟨hs,hg⟩:=World.ownsRow.stored h j (.string (e_ t));refine ⟨⟨⟨_,h1⟩,World.ownsRow.frozenAt h _⟩,?_,fun N w0 hb hN=>hb.setCell (p:=⟨g,j,none⟩) hN _⟩;unfold OwnT;rw [List.length_set,List.map_set];exact hs
theorem a6t (s:UInt8) (c:Nat):∀ (l:List Txt),(∀ t∈l,t.length≤c)→(Lib.join l [s]).length≤(c+1) * l.length
 | [],_=>by simp [Lib.join,List.intercalate]
 | [t],h=>by
  have:=h t List.mem_cons_self
  simp [Lib.join,List.intercalate]
  omega
 | t :: t' :: l,h=>by
  have h1:=h t List.mem_cons_self;have ih:=a6t s c (t' :: l) fun x hx=>h x (List.mem_cons_of_mem _ hx)
  have e:Lib.join (t :: t' :: l) [s]=t++s :: Lib.join (t' :: l) [s]:=by simp [Lib.join,List.intercalate,List.intersperse]
  rw [e,List.length_append,List.length_cons];rw [List.length_cons,Nat.mul_succ];omega
theorem b9v {g:Gm} (h:a2H g) (hr:∀ k (hk:k<g.prods.length),g.prods[k].right.length≤30) {x:It} (h0:0≤x.2) (h1:x.2≤90):(nmO g x).length≤4100:=by
 have h2:=a8v h hr x.1;have h3:=Lib.itoa_length_le x.2 (by omega) (by omega);unfold nmO;rw [List.length_append,List.length_append,List.length_singleton];omega
theorem b6K {g:Gm} (h:a2H g) (hr:∀ k (hk:k<g.prods.length),g.prods[k].right.length≤30) {K:Kr} (hK:∀ y∈K,0≤y.2∧y.2≤90) (hl:K.length≤1000):(Lib.join (a6S (K.map (nmO g))) [10]).length≤10000000:=by
 have h1:=a6t 10 4100 (a6S (K.map (nmO g))) (fun t ht=>by
  obtain ⟨x,hx,rfl⟩:=List.mem_map.1 ((a0h _).subset ht);exact b9v h hr (hK x hx).1 (hK x hx).2)
 rw [a1D,List.length_map] at h1;omega
def KrB (g:Gm) (K:Kr):Prop:=K.length≤1000∧∀ y∈K,-1≤y.1∧y.1<(g.prods.length:Int)∧0≤y.2∧y.2≤90
set_option maxRecDepth 100000 in
set_option maxHeartbeats 32000000 in
theorem b0h (g:Gm) (rv nv lv pv vl:Value) (L:List St) (w:World) (hu:UsG g) (hf:Fits12 g) (hV:GmV w rv nv lv pv g) (hL:Sts w vl L) (hl:L.length≤240) (hK:∀ x:St,x∈L→KrB g x.1) :
 Calls Tryz.prog 34 #[vl,gmA rv nv lv pv g.start] w fun e w'=>∃ v,e=.returned v∧OwnT w' w.heap.size v (L.map fun s=>a1l g s.1)∧Below w.heap.size w w':=by
 obtain ⟨la,lc,rfl⟩:=hL.shape;have hB1:=al' w (.cells #[rv,nv,lv,pv,.int .i64 g.start] 27);have k1:=b_ w (.cells #[rv,nv,lv,pv,.int .i64 g.start] 27);obtain ⟨W,hW⟩:∃ x,w.alloc (.cells #[rv,nv,lv,pv,.int .i64 g.start] 27)=x:=⟨_,rfl⟩;rw [hW] at hB1 k1;obtain ⟨y0,y1,y2,y3,y4⟩:=l_ k1;have GT:=hid (b1h g rv nv lv pv W hu hf (hV.keep hB1));have hB:=hid hB1;have hLs:=hid (fun u (hu:Below w.heap.size w u)=>Sts.keep hL hu);have hKs:=hid hK;have htl:=hid (a5H g);have hta:=hid (fun k (hk:k<(a6R g).length)=>b8B hk);have hpl:=hf.prods;have hnm:=hid hf.nm;have hrr:=hid hf.prod;clear hV hL hB1 k1 hu hf hK;obtain ⟨ll,hll⟩:∃ q,Hid (L.length=q):=⟨_,hid rfl⟩;rw [hll.out] at hl;generalize g.start=st at *;have hfz:Hid (a3p (fun s:St=>a1l g s.1) L 0=List.replicate L.length []):=hid a7U;go_enter Tryz.func34,Tryz.ntmps34
 rw [hll.out];go_wp2_with (go_at_call 57;refine GT.out.mono ?_;clear GT;rintro e w1 ⟨v5,rfl,hO5,hc1⟩;obtain ⟨xb,xc,rfl,-⟩:=a2p hO5 (show 0<(a6R g).length by rw [htl.out];omega);obtain ⟨w2,hmk,hO2,hb2⟩:=a5h w1 w1.heap.size ll (Nat.le_refl _) (by omega);have hO5:=hid hO5;have hc1:=hid hc1;have hO2:=hid hO2;have hb2:=hid hb2)
 have hO2:Hid (OwnT w2 w1.heap.size (.slice (some ⟨w1.heap.size,0,none⟩) ll ll) (a3p (fun s:St=>a1l g s.1) L 0)):=hid (by rw [hfz.out,hll.out];exact hO2.out);have GI:=hid (fun (d:Nat) (hd:d<100) u=>Tryz.strconv_Itoa_small d hd u);have hbs:=hid (show Below w.heap.size w w1 from a_ hB.out hc1.out);clear hmk hW y0 y1 y2 y3 y4 hfz;go_loopw [19] (fun i u=>∃ k:Nat,k≤ll∧i=.int .i64 (k:Int)∧Hid (OwnT u w1.heap.size (.slice (some ⟨w1.heap.size,0,none⟩) ll ll) (a3p (fun s:St=>a1l g s.1) L k))∧Hid (Below w1.heap.size w1 u)) (fun i _=>ll - (intOf i).toNat)
 case atStart=>exact ⟨0,Nat.zero_le _,rfl,hO2,hb2⟩
 case round =>
  clear hO2 hb2;obtain ⟨k,hk,rfl,hO,hb⟩:=hrel;have hlow:=hid (show Below w.heap.size w wr from a_ hbs.out hb.out);by_cases hlt:k<ll
  · have hltz:(k:Int)<(ll:Int):=by omega
    have hkl:k<L.length:=by rw [hll.out];exact hlt
    obtain ⟨b1,o1,e,-,vk,vn,x0,x1,hI,hN⟩:=Lst.at (hLs.out wr hlow.out) hkl;subst e;obtain ⟨ka,kc,rfl⟩:=hI.shape;obtain ⟨na,nc,rfl,-⟩:=hN;obtain ⟨hm1,hmk⟩:=hKs.out _ (List.getElem_mem hkl);have hset:Hid ((a3p (fun s:St=>a1l g s.1) L k).set k (a1l g L[k].1)=a3p (fun s:St=>a1l g s.1) L (k+1)):=hid (b0u (f:=fun s:St=>a1l g s.1) hkl);have hfl9:=hid (show (a3p (fun s:St=>a1l g s.1) L k).length=ll by rw [b0v (by omega)];exact hll.out);have hmkH:=hid hmk;have hjl:=hid (b6K hnm.out hrr.out (K:=L[k].1) (fun y hy=>⟨(hmk y hy).2.2.1,(hmk y hy).2.2.2⟩) hm1);obtain ⟨U1,hU1⟩:∃ z,wr.alloc (.cells #[.slice ka L[k].1.length kc,.slice na L[k].2.length nc] 43)=z:=⟨_,rfl⟩;have hal:Below wr.heap.size wr U1:=by rw [← hU1];exact al' wr _
    have kU:U1.heap[wr.heap.size]?=some (.cells #[.slice ka L[k].1.length kc,.slice na L[k].2.length nc] 43):=by rw [← hU1];exact b_ wr _
    obtain ⟨p0,p1⟩:=w_ kU;obtain ⟨U2,hmk2,hN0,hbn⟩:=a5h U1 U1.heap.size L[k].1.length (Nat.le_refl _) hm1;obtain ⟨p2,p3⟩:=w_ (g_ kU hbn);have hIU:=hid (fun u (hu:Below U1.heap.size U1 u)=>(hI.keep hal).keep hu);have hOw:=hid (fun u (hu:Below wr.heap.size wr u)=>j_ hO.out hu);have hN0:=hid hN0;have hbn:=hid hbn;have halH:=hid hal;clear hO hmk hI kU hal;obtain ⟨wo,hwo⟩:∃ x,x=wr:=⟨_,rfl⟩;subst hwo;have hf0:Hid (a3p (nmO g) L[k].1 0=List.replicate L[k].1.length []):=hid a7U;have hN0:Hid (OwnT U2 U1.heap.size (.slice (some ⟨U1.heap.size,0,none⟩) L[k].1.length L[k].1.length) (a3p (nmO g) L[k].1 0)):=hid (by rw [hf0.out];exact hN0.out);clear hf0;generalize L[k].2.length=q2 at *;generalize hKK:L[k].1=K at *;obtain ⟨m,hm9⟩:∃ q,Hid (K.length=q):=⟨_,hid rfl⟩;rw [hm9.out] at x0 hU1 p0 hmk2 p2 hN0 hm1 hIU;go_wp2;clear hmk2 hU1 x0 x1 p0 p1 p2 p3;go_loopw [31] (fun i u=>∃ j:Nat,j≤m∧i=.int .i64 (j:Int)∧Hid (OwnT u U1.heap.size (.slice (some ⟨U1.heap.size,0,none⟩) m m) (a3p (nmO g) K j))∧Hid (Below U1.heap.size U1 u)) (fun i _=>m - (intOf i).toNat)
    case atStart=>exact ⟨0,Nat.zero_le _,rfl,hN0,hbn⟩
    case round =>
     clear hN0 hbn;obtain ⟨j,hj,rfl,hM,hbi⟩:=hrel;have hbo:=hid (show Below wo.heap.size wo wr from a_ halH.out hbi.out);by_cases hjt:j<m
     · have hjtz:(j:Int)<(m:Int):=by omega
       have hjK:j<K.length:=by rw [hm9.out];exact hjt
       obtain ⟨b2,o2,e,-,z0,z1⟩:=Lst.at (hIU.out wr hbi.out) hjK;subst e;obtain ⟨r1,r2,r3,r4⟩:=hmkH.out K[j] (List.getElem_mem hjK);obtain ⟨kk,hkk⟩:∃ kk:Nat,K[j].1=(kk:Int) - 1:=⟨(K[j].1+1).toNat,by omega⟩;obtain ⟨d,hd⟩:∃ d:Nat,K[j].2=(d:Int):=⟨K[j].2.toNat,by omega⟩;rw [hd] at z1 r3 r4;have hkt:kk<(a6R g).length:=by rw [htl.out];omega
       have hktz:(kk:Int)<((a6R g).length:Int):=by omega
       have htx:=hta.out kk hkt;rw [← hkk] at htx;obtain ⟨X1,hX1⟩:∃ z,wr.alloc (.cells #[.int .i64 K[j].1,.int .i64 (d:Int)] 49)=z:=⟨_,rfl⟩;have hax:Below wr.heap.size wr X1:=by rw [← hX1];exact al' wr _
       obtain ⟨q0,q1⟩:X1.cell? ⟨wr.heap.size,0,none⟩=some (.int .i64 K[j].1)∧X1.cell? ⟨wr.heap.size,1,none⟩=some (.int .i64 (d:Int)):=by rw [← hX1];exact w_ (b_ wr _)
       have hO5X:OwnT X1 W.heap.size (.slice (some ⟨xb,0,none⟩) (a6R g).length xc) (a6R g):=j_ hO5.out (a_ (a_ hb.out hbo.out) hax);obtain ⟨g9,eg,tc⟩:=OwnT.at hO5X hkt;injection eg with eg;injection eg with eg _ _;subst eg;rw [List.getD_eq_getElem?_getD,List.getElem?_eq_getElem hkt,Option.getD_some,htx] at tc;have hfl:(a3p (nmO g) K j).length=m:=by rw [b0v (by omega)];exact hm9.out
       have hMX:OwnT X1 U1.heap.size (.slice (some ⟨U1.heap.size,0,none⟩) m m) (a3p (nmO g) K j):=j_ hM.out hax;obtain ⟨⟨⟨s0,c0⟩,f0⟩,-,-⟩:=OwnT.put hMX hfl hjt [];have hst9:=hid (b0u (f:=nmO g) hjK)
       have hfin:=hid (fun v (hv:Below wr.heap.size wr v)=>(by
        have hMv:OwnT v U1.heap.size (.slice (some ⟨U1.heap.size,0,none⟩) m m) (a3p (nmO g) K j):=j_ hM.out hv;obtain ⟨-,h2,h3⟩:=OwnT.put hMv hfl hjt (nmO g K[j]);rw [hst9.out] at h2;exact ⟨h2,h3 _ _ (a_ hbi.out hv) (Nat.le_refl _)⟩:OwnT (v.setCell ⟨U1.heap.size,j,none⟩ (.string (e_ (nmO g K[j])))) U1.heap.size (.slice (some ⟨U1.heap.size,0,none⟩) m m) (a3p (nmO g) K (j+1))∧Below U1.heap.size U1 (v.setCell ⟨U1.heap.size,j,none⟩ (.string (e_ (nmO g K[j]))))))
       have G9:=hid (fun u=>GI.out d (by omega) u);have hxl:=a8v hnm.out hrr.out K[j].1;have hdl:=Lib.itoa_length_le (d:Int) (by omega) (by omega);have hit:Lib.itoa (d:Int)=Lib.decDigits d:=by unfold Lib.itoa;rw [if_neg (by omega),Int.toNat_natCast]
       have hTR:Hid (e_ (Lib.decDigits d)++⟨#[32]⟩++e_ (txo g K[j].1)=e_ (nmO g K[j])):=hid (by
        unfold nmO;rw [hd,hit,← a0b,← a0b];rfl)
       have hTIs:(e_ (Lib.decDigits d)).size≤30:=by rw [o_,← hit];omega
       have hTXs:(e_ (txo g K[j].1)).size≤4000:=by rw [o_];exact hxl
       have G9:Hid (∀ u,Calls Tryz.prog 58 #[.int .i64 (d:Int)] u fun e w'=>e=.returned (.string (e_ (Lib.decDigits d)))∧w'=u):=G9;have hwr:IntKind.i64.wrap (K[j].1 - -1)=(kk:Int):=by rw [IntKind.wrap_i64];omega
       have hwr2:IntKind.i64.wrap (K[j].1+1)=(kk:Int):=by rw [IntKind.wrap_i64];omega
       have hkk0:(0:Int)≤(kk:Int):=by omega
       have haxH:=hid hax;clear hM hMX hO5X r1 r2 r3 r4 hkk hd hkt htx hfl hst9 hxl hdl hit hax;generalize e_ (nmO g K[j])=TR at *;generalize e_ (txo g K[j].1)=TX at *;generalize e_ (Lib.decDigits d)=TI at *;generalize hp:K[j].1=p at *;clear hp;obtain ⟨T1,hT1⟩:∃ x,TI++⟨#[32]⟩=x:=⟨_,rfl⟩;have h1s:(⟨#[32]⟩:ByteArray).size=1:=rfl;have hT1s:T1.size≤31:=by rw [← hT1,ByteArray.size_append,h1s];omega
       have hcA:∀ u,(Op.stringOp .add TI ⟨#[32]⟩).run Tryz.prog u=.ok (.string T1) u:=fun u=>by
        have h:=a0y TI ⟨#[32]⟩ u (by rw [h1s];omega);rw [hT1] at h;exact h
       rw [hT1] at hTR
       have hcB:∀ u,(Op.stringOp .add T1 TX).run Tryz.prog u=.ok (.string TR) u:=fun u=>by
        have h:=a0y T1 TX u (by omega);rw [hTR.out] at h;exact h
       clear hT1 hTR h1s;go_wp2_with fail
       go_region_law ((refine a2O (by rfl) 58 #[.int .i64 (d:Int)] (by go_simp) (G9.out _) ?_;rintro e u3 ⟨rfl,rfl⟩;refine ⟨_,rfl,?_⟩))
       all_goals
        go_wp2;go_roundw
        case rel=>exact ⟨j+1,by omega,by go_num,hid (hfin.out X1 haxH.out).1,hid (by first | exact (hfin.out X1 haxH.out).2 | exact (hfin.out X1 haxH.out).2.drew | exact q_ (hfin.out X1 haxH.out).2)⟩
        case measure=>simp [intOf];omega
     · have hjtz:¬ (j:Int)<(m:Int):=by omega
       obtain rfl:j=m:=by omega
       have hM9:=hM.out;rw [← hm9.out,b0w] at hM9;rw [hm9.out] at hM9;have hbz:=hbi.out.size;have GS:=hid (c1i _ (K.map (nmO g)) U1.heap.size wr hbz (by rw [List.length_map,hm9.out];omega) hM9);have GJ:=hid (fun w6 (h6:OwnT w6 U1.heap.size (.slice (some ⟨U1.heap.size,0,none⟩) j j) (a6S (K.map (nmO g))))=>c3Z h6 [10] (by rw [a1D,List.length_map,hm9.out];omega) (Nat.le_trans hjl.out (by omega)))
       have hput:=hid (fun w7 (h7:Below wo.heap.size wo w7)=>(by
        obtain ⟨h1,h2,h3⟩:=OwnT.put (hOw.out w7 h7) hfl9.out hlt (Lib.join (a6S (K.map (nmO g))) [10]);have hs:(a3p (fun s:St=>a1l g s.1) L k).set k (Lib.join (a6S (K.map (nmO g))) [10])=a3p (fun s:St=>a1l g s.1) L (k+1):=hset.out;rw [hs] at h2;exact ⟨h1,h2,h3 w1.heap.size w1 (a_ hb.out h7) (Nat.le_refl _)⟩:((∃ s,w7.cell? ⟨w1.heap.size,k,none⟩=some (.string s))∧w7.frozen? ⟨w1.heap.size,k,none⟩=false)∧OwnT (w7.setCell ⟨w1.heap.size,k,none⟩ (.string (e_ (Lib.join (a6S (K.map (nmO g))) [10])))) w1.heap.size (.slice (some ⟨w1.heap.size,0,none⟩) ll ll) (a3p (fun s:St=>a1l g s.1) L (k+1))∧Below w1.heap.size w1 (w7.setCell ⟨w1.heap.size,k,none⟩ (.string (e_ (Lib.join (a6S (K.map (nmO g))) [10]))))))
       have hsz:=hid (show wo.heap.size≤U1.heap.size from halH.out.size);clear hM hM9 hbz hset hjl;have GJ:Hid (∀ w6,OwnT w6 U1.heap.size (.slice (some ⟨U1.heap.size,0,none⟩) j j) (a6S (K.map (nmO g)))→Calls Tryz.prog 60 #[.slice (some ⟨U1.heap.size,0,none⟩) j j,.string ⟨#[10]⟩] w6 fun e w'=>e=.returned (.string (e_ (Lib.join (a6S (K.map (nmO g))) [10])))∧Below w6.heap.size w6 w'):=GJ;generalize e_ (Lib.join (a6S (K.map (nmO g))) [10])=TJ at *
       go_wp2_with (first
        | (go_at_call 60;refine (GJ.out w6 hO6.out).mono ?_;clear GJ;rintro e w7 ⟨rfl,hc7⟩;have h67:Below wo.heap.size wo w7:=hb6.out.trans (hc7.mono (Nat.le_trans hbo.out.size hbz6.out));obtain ⟨⟨⟨s0,c0⟩,f0⟩,hO7,hb7⟩:=hput.out w7 h67;have hO7:=hid hO7;have hb7:=hid hb7;clear hput h67 hc7)
        | (go_at_call 59;refine GS.out.mono ?_;clear GS;rintro e w6 ⟨rfl,hO6,hb6⟩;have hbz6:=hid hb6.size;have hO6:=hid hO6;have hb6:=hid (hbo.out.trans (hb6.mono hsz.out))))
       go_roundw
       case rel=>exact ⟨k+1,by omega,by go_num,hO7,hb7⟩
       case measure=>simp [intOf];omega
  · have hltz:¬ (k:Int)<(ll:Int):=by omega
    obtain rfl:k=ll:=by omega
    have hO9:=hO.out;rw [← hll.out,b0w] at hO9;rw [hll.out] at hO9;have hO9:=hid hO9;clear hO;go_wp2;go_ret;exact ⟨_,rfl,a0o hO9.out hbs.out.size,hlow.out⟩
end Go.Proofs.YtjgedijclkoemaaGreatDoor
namespace Go.Proofs.YtjgedijclkoemaaGreatDoor
open Go.RowKit Go.Shelf Go.Maps Go.Sort
attribute [local go_sem] Oper.semAt_some
abbrev b7F:={ p:Nat×Txt // p.2.length≤1000000 }
def b1T (t:List Txt) (h:∀ x∈t,x.length≤1000000) (j:Nat):b7F:=
 ⟨(t.length - 1 - j,t.getD (t.length - 1 - j) []),by
   show (t.getD (t.length - 1 - j) []).length≤1000000
   rw [List.getD_eq_getElem?_getD];cases e:t[t.length - 1 - j]? with
   | none=>exact Nat.zero_le _
   | some x=>exact h x (List.mem_of_getElem? e)⟩
def a3l {α:Type} (f:Nat→α) (k:Nat):List α:=(List.range k).map f
theorem a2J {α:Type} (f:Nat→α) (k:Nat):a3l f (k+1)=a3l f k++[f k]:=by simp [a3l,List.range_succ]
theorem a3e {α:Type} (f:Nat→α) (k:Nat):(a3l f k).length=k:=by simp [a3l]
abbrev c4s (x:b7F):Array Value:=#[.int .i64 (x.1.1:Int),.string (e_ x.1.2)]
set_option maxRecDepth 100000 in
set_option maxHeartbeats 4000000 in
theorem c4h (F:Fence) (n:Nat) (hF:F.fn 56) (hro:F.round=none) (hn:1≤n) (l Bs B9:Nat) (tv:Value) (t:List Txt) (ht:∀ x∈t,x.length≤1000000) (hl:t.length≤1000) (Kp:World→World→Prop) (hKr:∀ A,Kp A A) (hKt:∀ {A B C:World},Kp A B→Kp B C→Kp A C)
 (J Jx:List b7F→World→Prop)
 (hY:∀ pre x W,J pre W→pre.length<t.length→YieldAt F (n - 1) Tryz.prog l (c4s x) W fun e W' =>
  (e=.returned (.bool true)∧J (pre++[x]) W'∧Kp W W')∨(e=.returned (.bool false)∧Jx (pre++[x]) W'))
 (W:World) (hB:∀ u,Kp W u→u.cell? ⟨Bs,0,none⟩=some tv) (hT:∀ u,Kp W u→OwnT u B9 tv t) (hJ0:J [] W) :
 CallsIn F n Tryz.prog 56 #[.func (.yield l) #[] #[],.pointer (some ⟨Bs,0,none⟩)] W fun e W'=>(∃ v,e=.returned v) ∧
  ((∃ ys,ys=a3l (b1T t ht) t.length∧J ys W')∨(∃ pre,(∃ k,k≤t.length∧pre=a3l (b1T t ht) k)∧Jx pre W')):=by
 obtain ⟨ta,tc,rfl⟩:=p_ (hT W (hKr W));have hx0:=hB W (hKr W);have hBc:=hid hB;have hTc:=hid hT;clear hB hT;refine callsIn_of_wp Tryz.func56 rfl hF ?_ hro;simp only [Tryz.ntmps56,List.size_toArray,List.length_cons,List.length_nil,Nat.reduceAdd,Nat.reduceSub,Array.replicate_succ,Array.replicate_zero,List.push_toArray,List.append_toArray,List.nil_append,List.cons_append];gi_wp2
 gi_loopw [3] (fun i wr=>∃ k:Nat,k≤t.length∧i=.int .i64 ((t.length:Int) - 1 - (k:Int))∧J (a3l (b1T t ht) k) wr∧Hid (Kp W wr))
  (fun i _=>(intOf i+1).toNat)
 case atStart=>exact ⟨0,Nat.zero_le _,by simp,hJ0,hid (hKr W)⟩
 case round =>
  obtain ⟨k,hk,rfl,hJs,hnx⟩:=hrel;by_cases hlt:k<t.length
  · obtain ⟨fn,tmps,assign,body,hy,hR⟩:=hY _ (b1T t ht k) wr hJs (by rw [a3e];exact hlt)
    obtain ⟨b,e9,hc1⟩:=OwnT.at (hTc.out wr hnx.out) (j:=t.length - 1 - k) (by omega);subst e9;have hb1:=hBc.out wr hnx.out;have hy2:(Instr.yield l #[.int .i64 ((t.length - 1 - k:Nat):Int),.string (e_ (t.getD (t.length - 1 - k) []))]).run Tryz.prog wr=.ok (.round l fn tmps assign body) wr:=hy;clear hy;obtain ⟨j,hj⟩:∃ j:Nat,t.length - 1 - k=j:=⟨_,rfl⟩;rw [hj] at hc1 hy2;generalize e_ (t.getD j [])=S at *;have hjz:(t.length:Int) - 1 - (k:Int)=(j:Int):=by omega
    rw [hjz];have hjl:(j:Int)<(t.length:Int):=by omega
    have hj0:(0:Int)≤(j:Int):=by omega
    have hnext:Hid ((t.length:Int) - 1 - ((k+1:Nat):Int)=(j:Int) - 1):=hid (by omega);clear hBc hTc;gi_wp2;refine hR.mono ?_;rintro e W3 (⟨rfl,hJ3,hk3⟩ | ⟨rfl,hJx3⟩)
    · gi_wp2
      go_roundw
      case rel=>exact ⟨k+1,by omega,by rw [hnext.out],by rw [a2J];exact hJ3,hid (hKt hnx.out hk3)⟩
      case measure=>simp [intOf]
    · gi_wp2
      refine bodyPost_ret (results_none rfl _ _ _) rfl ?_;exact ⟨⟨_,rfl⟩,.inr ⟨_,⟨k+1,by omega,(a2J _ _).symm⟩,hJx3⟩⟩
  · obtain rfl:k=t.length:=by omega
    have hm1:(t.length:Int) - 1 - (t.length:Int) = -1:=by omega
    rw [hm1];gi_wp2;go_end0
    exact ⟨⟨_,rfl⟩,.inl ⟨_,rfl,hJs⟩⟩
set_option maxRecDepth 20000 in
theorem a8h (F:Fence) (n:Nat) (hF:F.fn 33) (hro:F.round=none) (a:Option Addr) (len cap:Nat) (w:World) :
 CallsIn F n Tryz.prog 33 #[.slice a len cap] w fun e w'=>e=.returned (.func (.func 56) #[] #[.pointer (some ⟨w.heap.size,0,none⟩)])∧w'=w.alloc (.cells #[.slice a len cap] 23):=by
 refine callsIn_of_wp Tryz.func33 rfl hF ?_ hro;simp only [Tryz.ntmps33,List.size_toArray,List.length_cons,List.length_nil,Nat.reduceAdd,Nat.reduceSub,Array.replicate_succ,Array.replicate_zero,List.push_toArray,List.append_toArray,List.nil_append,List.cons_append];gi_wp2;go_ret;exact ⟨rfl,rfl⟩
set_option maxRecDepth 20000 in
theorem b1J (F:Fence) (n:Nat) (hF:F.fn 56) (hro:F.round=none) (hn:1≤n) (Bs B9:Nat) (tv:Value) (t:List Txt) (ht:∀ x∈t,x.length≤1000000) (hl:t.length≤1000) (Kp:World→World→Prop) (hKr:∀ A,Kp A A) (hKt:∀ {A B C:World},Kp A B→Kp B C→Kp A C)
 (w:World) (hB:∀ u,Below w.heap.size w u→∀ u',Kp u u'→u'.cell? ⟨Bs,0,none⟩=some tv) (hT:∀ u,Below w.heap.size w u→∀ u',Kp u u'→OwnT u' B9 tv t) :
 SeqStopsK F n Tryz.prog 56 #[.pointer (some ⟨Bs,0,none⟩)] (fun x:b7F=>c4s x) Kp (fun ys=>ys=a3l (b1T t ht) t.length)
  (fun pre=>∃ k,k≤t.length∧pre=a3l (b1T t ht) k) t.length w:=fun l J Jx W hW _ _ hY hJ0 =>
 c4h F n hF hro hn l Bs B9 tv t ht hl Kp hKr hKt J Jx hY W (hB W hW) (hT W hW) hJ0
def fsA (x:Txt):List Txt→Nat→Option Int
 | [],_=>none
 | y :: l,i=>if y=x then some (i:Int) else fsA x l (i+1)
def mpF (pre:List b7F):Txt→Option Int:=pre.foldl (fun M (x:b7F)=>fun y=>if y=x.1.2 then some (x.1.1:Int) else M y) (fun _=>none)
theorem a9Z (pre:List b7F) (x:b7F):mpF (pre++[x])=fun y=>if y=x.1.2 then some (x.1.1:Int) else mpF pre y:=by
 unfold mpF;rw [List.foldl_append];rfl
theorem a9Y (t:List Txt) (ht:∀ x∈t,x.length≤1000000):∀ k,k≤t.length→mpF (a3l (b1T t ht) k)=fun y=>fsA y (t.drop (t.length - k)) (t.length - k)
 | 0,_=>by
  funext y
  rw [Nat.sub_zero,List.drop_length];rfl
 | k+1,hk=>by
  have ih:=a9Y t ht k (by omega);have hj:t.length - (k+1)<t.length:=by omega
  funext y
  rw [a2J,a9Z,ih,← List.getElem_cons_drop hj]
  have e1:(b1T t ht k).1.2=t[t.length - (k+1)]:=by
   show t.getD (t.length - 1 - k) []=_
   rw [List.getD_eq_getElem?_getD,List.getElem?_eq_getElem (by omega),Option.getD_some];congr 1
   omega
  have e2:(b1T t ht k).1.1=t.length - (k+1):=by show t.length - 1 - k=_;omega
  show (if y=(b1T t ht k).1.2 then some ((b1T t ht k).1.1:Int) else _)=if t[t.length - (k+1)]=y then some ((t.length - (k+1):Nat):Int) else fsA y (t.drop (t.length - (k+1)+1)) (t.length - (k+1)+1)
  rw [e1,e2,show t.length - (k+1)+1=t.length - k by omega];by_cases e:y=t[t.length - (k+1)]
  · rw [if_pos e,if_pos e.symm]
  · rw [if_neg e,if_neg (fun h=>e h.symm)]
theorem b9E (t:List Txt) (ht:∀ x∈t,x.length≤1000000):mpF (a3l (b1T t ht) t.length)=fun y=>fsA y t 0:=by
 have h:=a9Y t ht t.length (Nat.le_refl _);rw [Nat.sub_self,List.drop_zero] at h;exact h
theorem b8c {g h:Gm} (hg:SndG g) (hh:SndG h) {x:List It} (hx:b1U g x):∀ (M:List St) (i:Nat),(∀ s:St,s∈M→b1U h s.1)→(fsA (a1l g x) (M.map fun s=>a1l h s.1) i).getD (-1)=atS g h x M i
 | [],_,_=>rfl
 | m :: M,i,hM=>by
  have ih:=b8c hg hh hx M (i+1) fun s hs=>hM s (List.mem_cons_of_mem _ hs)
  have hk:=b7B hg hh hx (hM m List.mem_cons_self)
  show (if a1l h m.1=a1l g x then some (i:Int) else fsA (a1l g x) (M.map fun s=>a1l h s.1) (i+1)).getD (-1)=if b5g g h x m.1=true then (i:Int) else atS g h x M (i+1)
  rw [hk];by_cases e:a1l g x=a1l h m.1
  · rw [if_pos e.symm,decide_eq_true e,if_pos rfl]
    rfl
  · rw [if_neg (fun h9=>e h9.symm),decide_eq_false e,if_neg (by decide)]
    exact ih
end Go.Proofs.YtjgedijclkoemaaGreatDoor
namespace Go.Proofs.YtjgedijclkoemaaGreatDoor
open Go.RowKit Go.Shelf Go.Maps Go.Sort
theorem b2S {g:Gm} (h:a2H g) (p:Pd) (hr:p.right.length≤8):(a6T g p).length≤1100:=by
 have h1:=a2n h p p.right.length;have h2:=h p.prec;unfold a6T;rw [List.length_append,List.length_append];simp
 omega
theorem b5t {g:Gm} (h:a2H g) (hr:∀ k (hk:k<g.prods.length),g.prods[k].right.length≤8) (p:Int):(txo g p).length≤1100:=by
 by_cases hp:p<0
 · rw [a5I hp];exact Nat.zero_le _
 · by_cases hk:p.toNat<g.prods.length
   · have e:p=((p.toNat:Nat):Int):=by omega
     rw [e,a9p hk];exact b2S h _ (hr _ hk)
   · unfold txo
     rw [if_neg hp,List.getElem?_eq_none (by omega)];exact Nat.zero_le _
theorem b8G {g:Gm} (hu:UsG g):∀ x:St,x∈N_ g→∀ y∈x.1,itB g y=true:=fun x hx=>by
 have hK:=(KrI.fin hu.snd).right;unfold N_ at hx;generalize a7S g=K at *;obtain ⟨j,hj,rfl⟩:=List.getElem_of_mem hx;have hj':j<K.length:=by rw [a0i] at hj;exact hj
 have e:(a6c g K K.length)[j]=(K[j],if j<K.length then a0J g K K[j] else []):=a0Z (K:=K) hj';rw [e];exact fun y hy=>hK _ (List.getElem_mem hj') y hy
theorem b9V {g:Gm} (hg:FitsH g) {x:It} (h:itB g x=true):-1≤x.1∧x.1<(g.prods.length:Int)∧0≤x.2∧x.2≤90:=by
 obtain ⟨h1,h2,h3,h4⟩:=T_.1 h;refine ⟨h1,h2,h3,Int.le_trans h4 ?_⟩;unfold a0e;by_cases hn:x.1<0
 · rw [if_pos hn];simp
 · rw [if_neg hn]
   have hk:x.1.toNat<g.prods.length:=by omega
   rw [List.getD_eq_getElem?_getD,List.getElem?_eq_getElem hk,Option.getD_some]
   have:=hg.prod _ hk
   omega
theorem b6p {g:Gm} (h:a2H g) (hr:∀ k (hk:k<g.prods.length),g.prods[k].right.length≤8) {x:It} (h0:0≤x.2) (h1:x.2≤90):(nmO g x).length≤1200:=by
 have h2:=b5t h hr x.1;have h3:=Lib.itoa_length_le x.2 (by omega) (by omega);unfold nmO;rw [List.length_append,List.length_append,List.length_singleton];omega
theorem a7K {g:Gm} (hf:FitsH g) (hu:UsG g):∀ x:St,x∈N_ g→KrB g x.1∧(a1l g x.1).length≤1000000:=fun x hx=>by
 have h1:=(a0W hu x hx).1;have h2:=fun y hy=>b9V hf (b8G hu x hx y hy)
 refine ⟨⟨by omega,h2⟩,?_⟩
 have h3:=a6t 10 1200 (a6S (x.1.map (nmO g))) (fun t ht=>by
  obtain ⟨y,hy,rfl⟩:=List.mem_map.1 ((a0h _).subset ht);exact b6p hf.fits.nm hf.prod (h2 y hy).2.2.1 (h2 y hy).2.2.2)
 rw [a1D,List.length_map] at h3;unfold a1l;omega
def b1s (T1 T2:List Txt):List Int:=T1.map fun x=>(fsA x T2 0).getD (-1)
theorem b6F {T1 T2:List Txt}:(b1s T1 T2).length=T1.length:=List.length_map _
theorem b3J {T1 T2:List Txt} {i:Nat} (hi:i<T1.length):b1s (T1.take (i+1)) T2=b1s (T1.take i) T2++[(fsA T1[i] T2 0).getD (-1)]:=by
 unfold b1s;rw [List.take_succ_eq_append_getElem hi,List.map_append];rfl
theorem b9O {g h:Gm} {L M:List St} (hf:FitsH g) (hf':FitsH h) (hr:a1s g L=true) (hr':a1s h M=true):b1s (L.map fun s=>a1l g s.1) (M.map fun s=>a1l h s.1)=mpL g h L M:=by
 obtain ⟨u1,-,e1⟩:=R_.1 hr;obtain ⟨u2,-,e2⟩:=R_.1 hr';unfold b1s mpL;rw [List.map_map];refine List.map_congr_left fun x hx=>?_
 rw [e1] at hx;exact b8c u1.snd u2.snd (a5O u1 hf.fits.fitN x hx) M 0 fun s hs=>a5O u2 hf'.fits.fitN s (by rw [e2] at hs;exact hs)
theorem b3P {g:Gm} {L:List St} (hf:FitsH g) (hr:a1s g L=true):(∀ x:St,x∈L→KrB g x.1)∧∀ t∈(L.map fun s=>a1l g s.1),t.length≤1000000:=by
 obtain ⟨u1,-,e1⟩:=R_.1 hr;refine ⟨fun x hx=>(a7K hf u1 x (by rw [e1] at hx;exact hx)).1,fun t ht=>?_⟩;obtain ⟨x,hx,rfl⟩:=List.mem_map.1 ht;exact (a7K hf u1 x (by rw [e1] at hx;exact hx)).2
set_option maxRecDepth 20000 in
theorem a6Z {F:Fence} {n:Nat} {ops:Array Oper} {rest:List Oper} {o:Oper} {a:Act} {Q:Exit→Act→World→Prop} (w:World) (hgd:o.guard=none) (s x:Operand)
 (ho:o.op=.call { callee:=.builtin .append,args:=#[s,x],argTypes:=#[41,41] })
 (B:Nat) (l1:List Int) (v:Value) (z:Int) (b c:Nat) (hs:a.eval s=v) (hx:a.eval x=.slice (some ⟨b,0,none⟩) 1 c) (hown:Own w B v l1) (hN:w.cell? ⟨b,0,none⟩=some (.int .i64 z)) (hl:l1.length≤4000000) (hB:B≤w.heap.size)
 (h:∀ v' w',Own w' B v' (l1++[z])→Below B w w'→wpListIn F n Tryz.prog ops Q rest (a.put o.dst v') w'):wpListIn F n Tryz.prog ops Q (o :: rest) a w:=by
 obtain ⟨i0,hi,hz0,hz1,hz2⟩:=info_parts Tryz.info3;refine wpListIn_append_own w hgd s x 41 ho B 3 i0 (.int .i64 0) 1 8 Tryz.underlying41 hi hz0 hz1 hz2 rfl (by decide) v _ _ hs hown ⟨b,0,none⟩ 1 c (k_ [z]) hx (by rw [a0s];rfl) (fun j u hu=>?_) (a1u [z]) (by unfold maxLen;omega) (by omega) hB ?_
 · cases j with
   | zero =>
    have hu:some (Value.int .i64 z)=some u:=hu;injection hu with hu;subst hu;exact hN
   | succ j=>simp [k_] at hu
 · intro v' w' hO hg _
   refine h v' w' ?_ (a5y hown ((Below.refl _ w).mono hB) hB hg);unfold Own;rw [a3j,List.length_append];exact hO
theorem OwnMi.turn {w w':World} {m n:Nat} {M:Txt→Option Int} (h:OwnMi w m n M) {row:Option Nat} (hg:w.grownBy w' row) (hr:row≠some m):OwnMi w' m n M:=h.at (hg.block m h.lt (fun e=>hr e.symm))
theorem a8g {w u:World} (h:Below w.heap.size w u) {D:Nat} (hD:w.heap.size≤D) (o:Obj):Below w.heap.size w (u.putObj D o):=by
 have hg:=grownBy_putObj' u D o;refine ⟨hg.os.trans h.os,hg.tape.trans h.tape,hg.output.trans h.output,Nat.le_trans h.size hg.size,fun j hj=>?_⟩;rw [hg.block j (by have:=h.size;omega) (fun e=>by injection e with e;omega)];exact h.block j hj
theorem b1j {u:World} {B D:Nat} {v:Value} {X:List Int} (h:Own u B v X) (hD:D<B) (o:Obj):Own (u.putObj D o) B v X:=
 y_ h fun k hk=>(grownBy_putObj' u D o).block k (h.lt k hk).2 (fun e=>by
  injection e with e
  have:=(h.lt k hk).1
  omega)
theorem b1t {F:Nat→Prop} {w A C:World} {row:Option Nat} (h:Kept F w A) (hg:A.grownBy C row) (hr:∀ r,row=some r→w.heap.size≤r):Kept F w C:=by
 refine ⟨hg.os.trans h.os,hg.tape.trans h.tape,hg.output.trans h.output,Nat.le_trans h.size hg.size,fun k hk hn=>?_⟩;rw [hg.block k (by have:=h.size;omega) (fun e=>by have:=hr k e.symm;omega)];exact h.block k hk hn
theorem b1u {w A u:World} {b:Nat} (h:Below w.heap.size w A) (hb:w.heap.size≤b) (hk:Kept (f_ b) A u):Below w.heap.size w u:=by
 refine ⟨hk.os.trans h.os,hk.tape.trans h.tape,hk.output.trans h.output,Nat.le_trans h.size hk.size,fun j hj=>?_⟩;rw [hk.block j (by have:=h.size;omega) (fun e=>by have e:j=b:=e;omega)];exact h.block j hj
end Go.Proofs.YtjgedijclkoemaaGreatDoor
namespace Go.Proofs.YtjgedijclkoemaaGreatDoor
open Go.RowKit Go.Shelf Go.Maps Go.Sort
attribute [local go_sem] Oper.semAt_some
set_option maxRecDepth 100000 in
set_option maxHeartbeats 16000000 in
theorem c1O (g h:Gm) (rv nv lv pv rv' nv' lv' pv' vl vm:Value) (L M:List St) (w:World) (hT:Tab w) (hf:FitsH g) (hf':FitsH h) (hV:GmV w rv nv lv pv g) (hV':GmV w rv' nv' lv' pv' h)
 (hL:Sts w vl L) (hM:Sts w vm M) (hl:L.length≤240) (hlm:M.length≤240) (hlk:∀ x:St,x∈L→x.1.length≤1000∧x.2.length≤1000) (hmk:∀ x:St,x∈M→x.1.length≤1000∧x.2.length≤1000) (hr:a1s g L=true) (hr':a1s h M=true) :
 Calls Tryz.prog 19 #[vl,vm,gmA rv nv lv pv g.start,gmA rv' nv' lv' pv' h.start] w fun e w'=>(∃ v,e=.returned (.tuple #[v,.int .i64 0])∧Nums w' v (mpL g h L M))∧Below w.heap.size w w':=by
 obtain ⟨a,ac,rfl⟩:=hL.shape;obtain ⟨am,mc,rfl⟩:=hM.shape;have hB1:=al' w (.cells #[rv,nv,lv,pv,.int .i64 g.start] 27);have k1:=b_ w (.cells #[rv,nv,lv,pv,.int .i64 g.start] 27);have hB2:=al' (w.alloc (.cells #[rv,nv,lv,pv,.int .i64 g.start] 27)) (.cells #[rv',nv',lv',pv',.int .i64 h.start] 27);have k2:=b_ (w.alloc (.cells #[rv,nv,lv,pv,.int .i64 g.start] 27)) (.cells #[rv',nv',lv',pv',.int .i64 h.start] 27);have hs1:(w.alloc (.cells #[rv,nv,lv,pv,.int .i64 g.start] 27)).heap.size=w.heap.size+1:=World.size_alloc _ _;rw [hs1] at hB2 k2;obtain ⟨W,hW⟩:∃ x,(w.alloc (.cells #[rv,nv,lv,pv,.int .i64 g.start] 27)).alloc (.cells #[rv',nv',lv',pv',.int .i64 h.start] 27)=x:=⟨_,rfl⟩;rw [hW] at hB2 k2;have hlow:Hid (Below w.heap.size w W):=hid (hB1.trans (hB2.mono (by omega)));have hWs:W.heap.size=w.heap.size+1+1:=by rw [← hW,World.size_alloc,hs1]
 have k1W:W.heap[w.heap.size]?=some (.cells #[rv,nv,lv,pv,.int .i64 g.start] 27):=by rw [hB2.block w.heap.size (by omega)];exact k1
 have hk1:=hid (fun u (hu:Below W.heap.size W u)=>l_ (show u.heap[w.heap.size]?=_ from (hu.block w.heap.size (by omega)).trans k1W));have hk2:=hid (fun u (hu:Below W.heap.size W u)=>l_ (show u.heap[w.heap.size+1]?=_ from (hu.block (w.heap.size+1) (by omega)).trans k2));have G1:=hid (a2k g rv nv lv pv _ L W (hT.keep hlow.out) hf (hV.keep hlow.out) (hL.keep hlow.out) hl hlk);have G2:=hid (fun (u:World) (hu:Below W.heap.size W u)=>a2k h rv' nv' lv' pv' _ M u (hT.keep (a_ hlow.out hu)) hf' (hV'.keep (a_ hlow.out hu)) (hM.keep (a_ hlow.out hu)) hlm hmk);rw [hr] at G1;rw [hr'] at G2;obtain ⟨y0,y1,y2,y3,y4⟩:=hk1.out W (Below.refl _ _);have b0:=hid (Below.refl W.heap.size W);obtain ⟨kb1,hT1⟩:=b3P hf hr;obtain ⟨kb2,hT2⟩:=b3P hf' hr';have GK1:=hid (fun (u:World) (hu:Below W.heap.size W u)=>b0h g rv nv lv pv _ L u (R_.1 hr).1 hf.fits (hV.keep (a_ hlow.out hu)) (hL.keep (a_ hlow.out hu)) hl kb1);have GK2:=hid (fun (u:World) (hu:Below W.heap.size W u)=>b0h h rv' nv' lv' pv' _ M u (R_.1 hr').1 hf'.fits (hV'.keep (a_ hlow.out hu)) (hM.keep (a_ hlow.out hu)) hlm kb2);have hled:=hid (b9O hf hf' hr hr');have hn1:Hid ((L.map fun s=>a1l g s.1).length=L.length):=hid (List.length_map _);have hn2:Hid ((M.map fun s=>a1l h s.1).length=M.length):=hid (List.length_map _);generalize (L.map fun s=>a1l g s.1)=T1 at *;generalize (M.map fun s=>a1l h s.1)=T2 at *
 have hz:=hid (fun u (hu:Below W.heap.size W u)=>hk2.out u hu);have hmm:=a5a;generalize mpL g h L M=RES at *;clear hB1 hB2 k1 k2 k1W hV hV' hL hM hWs hr hr' hlk hmk kb1 kb2 hT hf hf';obtain ⟨n,hn⟩:∃ n,Hid (L.length=n):=⟨_,hid rfl⟩;obtain ⟨m,hm⟩:∃ n,Hid (M.length=n):=⟨_,hid rfl⟩;rw [hn.out] at hl hn1 G1 GK1 ⊢;rw [hm.out] at hlm hn2 G2 GK2 ⊢;generalize g.start=st at *;generalize h.start=st' at *;have hmx:Tryz.prog.follows .mixedOrders=true:=by kernel_rfl
 refine (callsIn_wide (n:=4)).1 ?_;refine callsIn_of_wp_marks Tryz.func19 rfl trivial ?_ rfl;simp only [Tryz.ntmps19,List.size_toArray,List.length_cons,List.length_nil,Nat.reduceAdd,Nat.reduceSub,Array.replicate_succ,Array.replicate_zero,List.push_toArray,List.append_toArray,List.nil_append,List.cons_append]
 gi_wp2_with (first
  | (refine ⟨trivial,?_⟩;gi_at_call 13;refine (callsIn_wide.2 (G2.out w3 hc3.out)).mono ?_;clear G2;rintro e w4 ⟨rfl,hc4⟩
     obtain ⟨w5,hw5⟩:∃ x,w4.alloc (.map #[] 0)=x:=⟨_,rfl⟩;obtain ⟨w6,hw6⟩:∃ x,w5.alloc (.cells #[.map (some w4.heap.size)] 70)=x:=⟨_,rfl⟩
     have hM0:Hid (OwnMi w6 w4.heap.size 0 (fun _=>none)∧w6.heap[w5.heap.size]?=some (.cells #[.map (some w4.heap.size)] 70)∧Below w4.heap.size w4 w6∧w5.heap.size=w4.heap.size+1∧w6.heap.size=w5.heap.size+1):=hid (by
      have z5:w5.heap.size=w4.heap.size+1:=by rw [← hw5];exact World.size_alloc ..
      have h5:OwnMi w5 w4.heap.size 0 (fun _=>none):=by rw [← hw5];exact OwnMi.made w4
      have b5:Below w4.heap.size w4 w5:=by rw [← hw5];exact al' w4 _
      have b6:Below w5.heap.size w5 w6:=by rw [← hw6];exact al' w5 _
      refine ⟨h5.at (b6.block _ (by omega)),by rw [← hw6];exact b_ w5 _,b5.trans (b6.mono (by omega)),z5,by rw [← hw6];exact World.size_alloc ..⟩)
     have hc4:=hid (a_ hc3.out hc4);have hc6:=hid (a_ hc4.out hM0.out.2.2.1);obtain ⟨p0,p1,p2,p3,p4⟩:=hz.out w6 hc6.out)
  | (refine ⟨trivial,?_⟩;gi_at_call 13;refine (callsIn_wide.2 G1.out).mono ?_;clear G1;rintro e w3 ⟨rfl,hc3⟩;have hc3:=hid hc3;obtain ⟨q0,q1,q2,q3,q4⟩:=hz.out w3 hc3.out)
  | (refine ⟨trivial,?_⟩;gi_at_call 34;refine (callsIn_wide.2 (GK2.out w6 hc6.out)).mono ?_;clear GK2;rintro e w7 ⟨v7,rfl,hO7,hc7⟩
     obtain ⟨ta,tc,hv7⟩:=p_ hO7;subst hv7;have hO7:=hid hO7;have hc7:=hid hc7;obtain ⟨w8,hw8⟩:∃ x,w7.alloc (.cells #[.slice ta T2.length tc] 23)=x:=⟨_,rfl⟩)
  | (refine ⟨trivial,?_⟩;gi_at_call 33;refine (a8h Fence.wide 3 trivial rfl _ _ _ _).mono ?_;rintro e w' ⟨rfl,rfl⟩;rw [hw8]))
 have hZ:=hid (show w8.heap.size=w7.heap.size+1 by rw [← hw8];exact World.size_alloc ..);have hb8:=hid (show Below w7.heap.size w7 w8 by rw [← hw8];exact al' w7 _);have hbx8:=hid (show w8.heap[w7.heap.size]?=some (.cells #[.slice ta T2.length tc] 23) by rw [← hw8];exact b_ w7 _);obtain ⟨hM0,hbb0,hb46,hz5,hz6⟩:=hM0.out;have hc76:=hc7.out.size;have hZo:=hZ.out;have hc4s:=hc4.out.size;have hbb8:Hid (w8.heap[w5.heap.size]?=some (.cells #[.map (some w4.heap.size)] 70)):=hid (g_ (g_ hbb0 hc7.out) hb8.out);have hM8:Hid (OwnMi w8 w4.heap.size 0 (fun _=>none)):=hid ((hM0.at (hc7.out.block _ (by omega))).at (hb8.out.block _ (by omega)));have hBox:Hid (∀ u,Below w8.heap.size w8 u→∀ u',Kept (fun k=>k=w4.heap.size∨w8.heap.size≤k) u u'→u'.cell? ⟨w7.heap.size,0,none⟩=some (.slice ta T2.length tc)):=hid (fun u hu u' h=>c_ (h.blk (g_ hbx8.out hu) (fun e=>by rcases e with e | e <;> omega)) rfl)
 have hTx:Hid (∀ u,Below w8.heap.size w8 u→∀ u',Kept (fun k=>k=w4.heap.size∨w8.heap.size≤k) u u'→OwnT u' w6.heap.size (.slice ta T2.length tc) T2):=hid (fun u hu u' h=>y_ (j_ (j_ hO7.out hb8.out) hu) fun k hk=>by
  have h1:=hO7.out.lt k hk;exact h.block k (by have:=hu.size;omega) (fun e=>by rcases e with e | e <;> omega))
 have hKb9:Hid (∀ (W:World) (l:Nat) (o o':Obj),w8.heap.size≤l→W.heap[l]?=some o→Kept (fun k=>k=w4.heap.size∨w8.heap.size≤k) W (W.putObj l o')):=hid (fun W l o o' hl ho=>by
  have hg:=grownBy_putObj' W l o';exact ⟨hg.os,hg.tape,hg.output,hg.size,fun k hk hn=>hg.block k hk (fun e=>by injection e with e;subst e;exact hn (.inr hl))⟩)
 have hq8:w4.heap.size<w8.heap.size:=by omega
 have hq8H:=hid hq8;have hlowK:Hid (∀ u,Kept (f_ w4.heap.size) w8 u→Below W.heap.size W u):=hid (fun u h=>b1u (a_ hc6.out (a_ hc7.out hb8.out)) hc4s h);have hbbK:Hid (∀ u,Kept (f_ w4.heap.size) w8 u→u.heap[w5.heap.size]?=some (.cells #[.map (some w4.heap.size)] 70)):=hid (fun u h=>h.blk hbb8.out (fun e=>by have e:w5.heap.size=w4.heap.size:=e;omega));have hTl:T2.length≤1000:=by have:=hn2.out;omega
 have hmpA:=hid (b9E T2 hT2);have hW8s:=hid (show W.heap.size≤w8.heap.size by omega);clear hM0 hbb0 hz5 hz6 hc76 hZo hb46 hc4s hmm p0 p1 p2 p3 p4 hw8;refine wpIn_rangeFunc_ownG rfl (by omega) (gf:=56) (lb:=#[.pointer (some ⟨w7.heap.size,0,none⟩)]) rfl trivial (enters_of Tryz.func56 (by kernel_rfl) rfl)
  (b1J Fence.wide 3 trivial rfl (by omega) w7.heap.size w6.heap.size (.slice ta T2.length tc) T2 hT2 hTl (Kept (fun k=>k=w4.heap.size∨w8.heap.size≤k)) (fun A=>Kept.refl _ A) (fun h k=>h.trans k) w8 hBox.out hTx.out)
  (fun h k=>h.trans k) (fun W l o o' h1 h2 _ _=>hKb9.out W l o o' h1 h2) (Below.refl _ _) (fun _=>rfl)
  (fun pre U=>OwnMi U w4.heap.size pre.length (mpF pre)∧Kept (f_ w4.heap.size) w8 U)
  (fun _ _ _=>False)
  (fun s A C row hs hg hr=>⟨hs.1.turn hg (fun e=>by have:=(hr _ e).1;omega),b1t hs.2 hg (fun r e=>(hr r e).1)⟩)
  (fun _ _ _ _ _ hs _ _=>hs)
  ⟨hM8.out,Kept.refl _ _⟩
  (fun (x:b7F)=>{ tmps:=#[.slice a n ac,.slice am m mc,gmA rv nv lv pv st,gmA rv' nv' lv' pv' st',undef,undef,.pointer (some ⟨w.heap.size,0,none⟩),.pointer (some ⟨w.heap.size+1,0,none⟩),.slice none 0 0,.int .i64 0,.pointer (some ⟨w5.heap.size,0,none⟩),.int .i64 (x.1.1:Int),.string (e_ x.1.2),undef,undef,undef,undef,undef,gmA rv nv lv pv st,.slice a n ac,.bool true,.bool false,.bool false,gmA rv' nv' lv' pv' st',.slice am m mc,.bool true,.bool false,.bool false,.map (some w4.heap.size),.slice am m mc,gmA rv' nv' lv' pv' st',.slice ta T2.length tc,.func (.func 56) #[] #[.pointer (some ⟨w7.heap.size,0,none⟩)],.int .i64 (x.1.1:Int),.string (e_ x.1.2),undef,undef,undef,undef,undef,undef,undef,undef,undef,undef,undef,undef,undef,undef,undef,undef,undef,undef,undef,undef,undef,undef,undef,undef,undef],defers:=[] }) ?assign ?body ?done ?stop
 case assign =>
  intro l x W K hK;gi_wp2;exact hK
 case body =>
  rintro l pre x U ⟨hM,hK⟩ hlen;obtain ⟨U',hup,hO,hk⟩:=hM.put x.1.2 (x.1.1:Int) x.2 (by omega);rw [← a9Z] at hO;have e0:=c_ (o:=0) (hbbK.out U hK) rfl
  have hfin:=hid (show KeepsFrom w8.heap.size U U'∧Kept (fun k=>k=w4.heap.size∨w8.heap.size≤k) U U'∧OwnMi U' w4.heap.size (pre++[x]).length (mpF (pre++[x]))∧Kept (f_ w4.heap.size) w8 U' from
   ⟨⟨hk.size,fun k o hB ho _=>(hk.block k (Array.getElem?_eq_some_iff.1 ho).1 (fun e=>by have e:k=w4.heap.size:=e;omega)).trans ho⟩,hk.mono (fun k _ e=>.inl e),by rw [List.length_append,List.length_singleton];exact hO,hK.trans hk⟩)
  clear hM hK hO hk hBox hTx hKb9 hlowK hbbK;generalize e_ x.1.2=S at *;generalize (x.1.1:Int)=z at *;gi_wp2;exact hfin.out
 case done =>
  rintro D ys U hD rfl ⟨hM,hK⟩ hDq
  have hM:Hid (OwnMi U w4.heap.size T2.length (fun y=>fsA y T2 0)):=hid (by
   have h9:=hM.cast hmpA.out;rw [a3e] at h9;exact h9)
  have hlU:=hid (hlowK.out U hK);have hbU:=hid (hbbK.out U hK);have hDU:=u_ hDq;have hDqH:=hid hDq;obtain ⟨p0,p1,p2,p3,p4⟩:=hk1.out U hlU.out;clear hDq hK hBox hTx hKb9 hlowK hbbK hM8 hbb8
  gi_wp2_with (refine ⟨trivial,?_⟩;gi_at_call 34;refine (callsIn_wide.2 (GK1.out U hlU.out)).mono ?_;clear GK1;rintro e w9 ⟨v9,rfl,hO9,hc9⟩
               obtain ⟨t1,t1c,hv9⟩:=p_ hO9;subst hv9;have hO9:=hid hO9;have hc9:=hid hc9)
  have hT1l:T1.length≤240:=by have:=hn1.out;omega
  have h00:Hid (Own w9 w9.heap.size (.slice none 0 0) (b1s (T1.take 0) T2)):=hid (World.ownsRow_nil _ _ _ _);have b00:=hid (Below.refl w9.heap.size w9);gi_loopw [13,42] (fun v i u=>∃ k:Nat,k≤T1.length∧i=.int .i64 (k:Int)∧Hid (Own u w9.heap.size v (b1s (T1.take k) T2))∧Hid (Below w9.heap.size w9 u)) (fun _ i _=>T1.length - (intOf i).toNat)
  case atStart=>exact ⟨0,Nat.zero_le _,rfl,h00,b00⟩
  case round =>
   clear h00 b00;obtain ⟨k,hk,rfl,hO,hb⟩:=hrel;by_cases hlt:k<T1.length
   · have hltz:(k:Int)<(T1.length:Int):=by omega
     obtain ⟨b1,e1,c1⟩:=OwnT.at (j_ hO9.out hb.out) hlt;subst e1;rw [List.getD_eq_getElem?_getD,List.getElem?_eq_getElem hlt,Option.getD_some] at c1;have hml:=hM.out.lt;have hmW:OwnMi wr w4.heap.size T2.length (fun y=>fsA y T2 0):=(hM.out.at (hc9.out.block _ hml)).at (hb.out.block _ (by have:=hc9.out.size;omega));have hlk:=hmW.look T1[k] (hT1 _ (List.getElem_mem hlt));have e0:=c_ (o:=0) (g_ (g_ hbU.out hc9.out) hb.out) rfl;have hnext:Hid (b1s (T1.take (k+1)) T2=b1s (T1.take k) T2++[(fsA T1[k] T2 0).getD (-1)]):=hid (b3J hlt);have hlen:Hid ((b1s (T1.take k) T2).length≤4000000):=hid (by rw [b6F,List.length_take];have:=hn1.out;omega);clear hmW hml;generalize e_ T1[k]=S at *;cases hq:fsA T1[k] T2 0 with
     | none =>
      rw [hq] at hlk hnext;have hnext:=hid hnext.out;rw [Option.getD_none] at hlk hnext;clear hq;gi_wp2_with (gi_at_builtin;refine a6Z _ rfl _ _ rfl w9.heap.size (b1s (T1.take k) T2) _ (-1) wr.heap.size 1 rfl rfl (j_ hO.out (al' wr _)) (c_ (o:=0) (b_ wr _) rfl) hlen.out (Nat.le_trans hb.out.size (al' wr _).size) ?_;intro v' w11 hO2 hb2;have hO2:=hid hO2;have hb3:=hid ((a_ hb.out (al' wr _)).trans hb2))
      go_roundw
      case rel=>exact ⟨k+1,by omega,by go_num,hid (by rw [hnext.out];exact hO2.out),hb3⟩
      case measure=>simp [intOf];omega
     | some q =>
      rw [hq] at hlk hnext;rw [Option.getD_some] at hlk hnext;clear hq;gi_wp2_with (gi_at_builtin;refine a6Z _ rfl _ _ rfl w9.heap.size (b1s (T1.take k) T2) _ q wr.heap.size 1 rfl rfl (j_ hO.out (al' wr _)) (c_ (o:=0) (b_ wr _) rfl) hlen.out (Nat.le_trans hb.out.size (al' wr _).size) ?_;intro v' w11 hO2 hb2;have hO2:=hid hO2;have hb3:=hid ((a_ hb.out (al' wr _)).trans hb2))
      go_roundw
      case rel=>exact ⟨k+1,by omega,by go_num,hid (by rw [hnext.out];exact hO2.out),hb3⟩
      case measure=>simp [intOf];omega
   · obtain rfl:k=T1.length:=by omega
     have hltz:¬ (T1.length:Int)<(T1.length:Int):=by omega
     have hOv:=hO.out;rw [List.take_length,hled.out] at hOv;have hD9:D<w9.heap.size:=by have:=hc9.out.size;omega
     have hDq':wr.heap[D]?=some (.deferred (some [])):=(hb.out.block D hD9).trans ((hc9.out.block D hDU).trans hDqH.out);have hW9:=hid (b1j hOv hD9 (.deferred none));have hBl:=hid (a_ hlow.out (a8g (D:=D) (a_ (a_ hlU.out hc9.out) hb.out) (by have:=hW8s.out;omega) (.deferred none)));clear hOv hO;gi_wp2;refine ⟨by simp,.inl ⟨_,_,rfl,run_takeDeferred hDq',?_⟩⟩;exact ⟨_,results_tmp2 rfl _ _ _,⟨_,rfl,Nums.of_row hW9.out⟩,hBl.out⟩
 case stop =>
  rintro D c pre W _ _ h _;exact h.elim
end Go.Proofs.YtjgedijclkoemaaGreatDoor
namespace Go.Proofs.YtjgedijclkoemaaGreatDoor
open Go.RowKit Go.Maps Go.Sort
set_option maxRecDepth 100000 in
set_option maxHeartbeats 8000000 in
theorem c3V (g h:Gm) (rv nv lv pv rv' nv' lv' pv' vl vm:Value) (L M:List St) (w:World) (hT:Tab w) (hf:FitsH g) (hf':FitsH h) (hV:GmV w rv nv lv pv g) (hV':GmV w rv' nv' lv' pv' h)
 (hL:Sts w vl L) (hM:Sts w vm M) (hl:L.length≤240) (hlm:M.length≤240) (hlk:∀ x:St,x∈L→x.1.length≤1000∧x.2.length≤1000) (hmk:∀ x:St,x∈M→x.1.length≤1000∧x.2.length≤1000) (hrr:¬ (a1s g L=true∧a1s h M=true)) :
 Calls Tryz.prog 19 #[vl,vm,gmA rv nv lv pv g.start,gmA rv' nv' lv' pv' h.start] w fun e w'=>e=.returned (.tuple #[.slice none 0 0,.int .i64 10])∧Below w.heap.size w w':=by
 have hB1:=al' w (.cells #[rv,nv,lv,pv,.int .i64 g.start] 27);have k1:=b_ w (.cells #[rv,nv,lv,pv,.int .i64 g.start] 27);have hB2:=al' (w.alloc (.cells #[rv,nv,lv,pv,.int .i64 g.start] 27)) (.cells #[rv',nv',lv',pv',.int .i64 h.start] 27);have k2:=b_ (w.alloc (.cells #[rv,nv,lv,pv,.int .i64 g.start] 27)) (.cells #[rv',nv',lv',pv',.int .i64 h.start] 27);have hs1:(w.alloc (.cells #[rv,nv,lv,pv,.int .i64 g.start] 27)).heap.size=w.heap.size+1:=World.size_alloc _ _;rw [hs1] at hB2 k2;obtain ⟨W,hW⟩:∃ x,(w.alloc (.cells #[rv,nv,lv,pv,.int .i64 g.start] 27)).alloc (.cells #[rv',nv',lv',pv',.int .i64 h.start] 27)=x:=⟨_,rfl⟩;rw [hW] at hB2 k2;have hlow:Hid (Below w.heap.size w W):=hid (hB1.trans (hB2.mono (by omega)));have hWs:W.heap.size=w.heap.size+1+1:=by rw [← hW,World.size_alloc,hs1]
 have k1W:W.heap[w.heap.size]?=some (.cells #[rv,nv,lv,pv,.int .i64 g.start] 27):=by rw [hB2.block w.heap.size (by omega)];exact k1
 have hk1:=hid (fun u (hu:Below W.heap.size W u)=>l_ (show u.heap[w.heap.size]?=_ from (hu.block w.heap.size (by omega)).trans k1W));have hk2:=hid (fun u (hu:Below W.heap.size W u)=>l_ (show u.heap[w.heap.size+1]?=_ from (hu.block (w.heap.size+1) (by omega)).trans k2));have GR:=hid (fun (u:World) (hu:Below W.heap.size W u)=>a2k g rv nv lv pv _ L u (hT.keep (a_ hlow.out hu)) hf (hV.keep (a_ hlow.out hu)) (hL.keep (a_ hlow.out hu)) hl hlk);have GR':=hid (fun (u:World) (hu:Below W.heap.size W u)=>a2k h rv' nv' lv' pv' _ M u (hT.keep (a_ hlow.out hu)) hf' (hV'.keep (a_ hlow.out hu)) (hM.keep (a_ hlow.out hu)) hlm hmk);obtain ⟨y0,y1,y2,y3,y4⟩:=hk1.out W (Below.refl _ _);obtain ⟨q0,q1,q2,q3,q4⟩:=hk2.out W (Below.refl _ _);have b0:=hid (Below.refl W.heap.size W);by_cases hr:a1s g L=true
 case neg =>
  rw [Bool.not_eq_true] at hr;rw [hr] at GR;clear hB1 hB2 k1 k2 k1W hV hV' hL hM hWs hr hrr hT hf hf' hlk hmk hl hlm;generalize g.start=st at *;generalize h.start=st' at *;go_enter Tryz.func19,Tryz.ntmps19
  go_wp2_with (go_at_call 13;refine (GR.out W b0.out).mono ?_;clear GR;rintro e w3 ⟨rfl,hc3⟩;have hc3:=hid hc3)
  go_ret2;exact ⟨rfl,a_ hlow.out hc3.out⟩
 case pos =>
  have hr':a1s h M=false:=by
   rw [← Bool.not_eq_true];exact fun h9=>hrr ⟨hr,h9⟩
  rw [hr] at GR;rw [hr'] at GR';have hz:=hid (fun u (hu:Below W.heap.size W u)=>hk2.out u hu);clear hB1 hB2 k1 k2 k1W hV hV' hL hM hWs hr hr' hrr q0 q1 q2 q3 q4 hT hf hf' hlk hmk hl hlm;generalize g.start=st at *;generalize h.start=st' at *;go_enter Tryz.func19,Tryz.ntmps19
  go_wp2_with (first
   | (go_at_call 13;refine (GR'.out w3 hc3.out).mono ?_;clear GR';rintro e w4 ⟨rfl,hc4⟩;have hc4:=hid hc4)
   | (go_at_call 13;refine (GR.out W b0.out).mono ?_;clear GR;rintro e w3 ⟨rfl,hc3⟩;have hc3:=hid hc3;obtain ⟨q0,q1,q2,q3,q4⟩:=hz.out w3 hc3.out))
  go_ret2;exact ⟨rfl,a_ hlow.out (a_ hc3.out hc4.out)⟩
theorem c5b {w:World} (hT:Tab w):AutM w:=⟨fun g h rv nv lv pv rv' nv' lv' pv' vl vm L M u hu hf hf' hV hV' hL hM hl hlm hlk hmk=>by
 by_cases hr:a1s g L=true∧a1s h M=true
 · refine (c1O g h rv nv lv pv rv' nv' lv' pv' vl vm L M u (hT.keep hu) hf hf' hV hV' hL hM hl hlm hlk hmk hr.1 hr.2).mono fun e w' h9=>⟨fun _=>h9.1,fun h1=>absurd hr h1,h9.2⟩
 · refine (c3V g h rv nv lv pv rv' nv' lv' pv' vl vm L M u (hT.keep hu) hf hf' hV hV' hL hM hl hlm hlk hmk hr).mono fun e w' h9=>⟨fun h1=>absurd h1 hr,fun _=>⟨_,h9.1,Nums.nil _⟩,h9.2⟩⟩
theorem b9D (g h:Gm) (L M:List St):(mpL g h L M).length=L.length:=by unfold mpL;rw [List.length_map]
theorem b6m (w:World):Nums w (.slice none 0 0) []:=⟨none,0,rfl,Nat.le_refl _,fun _=>rfl,fun _j hj=>absurd hj (Nat.not_lt_zero _)⟩
set_option maxRecDepth 100000 in
set_option maxHeartbeats 8000000 in
theorem a8m (rv nv lv pv rv' nv' lv' pv':Value) (g h:Gm) (w:World) (HA:AutOK w) (HM:AutM w) (HW:WkOK17 w) (hg:GmV w rv nv lv pv g) (hh:GmV w rv' nv' lv' pv' h):Calls Tryz.prog 7 #[gmA rv nv lv pv g.start,gmA rv' nv' lv' pv' h.start] w fun e w'=>e=.returned (.bool true)∧Below w.heap.size w w':=by
 have hKp:=hid (fun u (hu:Below w.heap.size w u)=>hg.keep hu);have hKp':=hid (fun u (hu:Below w.heap.size w u)=>hh.keep hu);have hB1:=al' w (.cells #[rv,nv,lv,pv,.int .i64 g.start] 27);have k1:=b_ w (.cells #[rv,nv,lv,pv,.int .i64 g.start] 27);have hB2:=al' (w.alloc (.cells #[rv,nv,lv,pv,.int .i64 g.start] 27)) (.cells #[rv',nv',lv',pv',.int .i64 h.start] 27);have k2:=b_ (w.alloc (.cells #[rv,nv,lv,pv,.int .i64 g.start] 27)) (.cells #[rv',nv',lv',pv',.int .i64 h.start] 27);have hs1:(w.alloc (.cells #[rv,nv,lv,pv,.int .i64 g.start] 27)).heap.size=w.heap.size+1:=World.size_alloc _ _;rw [hs1] at hB2 k2;obtain ⟨W,hW⟩:∃ x,(w.alloc (.cells #[rv,nv,lv,pv,.int .i64 g.start] 27)).alloc (.cells #[rv',nv',lv',pv',.int .i64 h.start] 27)=x:=⟨_,rfl⟩;rw [hW] at hB2 k2;have hB:Hid (Below w.heap.size w W):=hid (hB1.trans (hB2.mono (by omega)));have hWs:W.heap.size=w.heap.size+1+1:=by rw [← hW,World.size_alloc,hs1]
 have k1W:W.heap[w.heap.size]?=some (.cells #[rv,nv,lv,pv,.int .i64 g.start] 27):=by rw [hB2.block w.heap.size (by omega)];exact k1
 have hk1:=hid (fun u (hu:Below W.heap.size W u)=>l_ (show u.heap[w.heap.size]?=_ from (hu.block w.heap.size (by omega)).trans k1W));have hk2:=hid (fun u (hu:Below W.heap.size W u)=>l_ (show u.heap[w.heap.size+1]?=_ from (hu.block (w.heap.size+1) (by omega)).trans k2));have GW:=hid (HW.wakes W hB.out);by_cases hf:FitsH g
 · have GL:=hid (fun u (hu:Below w.heap.size w u)=>a0N _ _ _ _ g u (hKp.out u hu) hf)
   by_cases hf':FitsH h
   · have GL':=hid (fun u (hu:Below w.heap.size w u)=>a0N _ _ _ _ h u (hKp'.out u hu) hf')
     have GA:=hid (fun u (hu:Below w.heap.size w u)=>HA.build g rv nv lv pv u hu hf (hKp.out u hu));have GB:=hid (fun u (hu:Below w.heap.size w u)=>HA.build h rv' nv' lv' pv' u hu hf' (hKp'.out u hu))
     obtain ⟨ML,ez,hlen,GM,GR⟩:∃ (ML:List Int) (ez:Int),ML.length≤240 ∧
      (∀ u vl vm,Below w.heap.size w u→Sts u vl (lB g)→Sts u vm (lB h)→Calls Tryz.prog 19 #[vl,vm,gmA rv nv lv pv g.start,gmA rv' nv' lv' pv' h.start] u fun e w'=>∃ v,e=.returned (.tuple #[v,.int .i64 ez])∧Nums w' v ML∧Below u.heap.size u w') ∧
      (∀ u vl vm,Below w.heap.size w u→Sts u vl (lB g)→Sts u vm (lB h)→Calls Tryz.prog 20 #[vl,vm,gmA rv nv lv pv g.start,gmA rv' nv' lv' pv' h.start] u fun e w'=>∃ v,e=.returned (.tuple #[v,.int .i64 ez])∧Nums w' v ML∧Below u.heap.size u w'):=by
      have q1:∀ x:St,x∈lB g→x.1.length≤1000∧x.2.length≤1000:=fun x hx=>by have:=a5k g x hx;omega
      have q2:∀ x:St,x∈lB h→x.1.length≤1000∧x.2.length≤1000:=fun x hx=>by have:=a5k h x hx;omega
      have n1:=a5j g;have n2:=a5j h;have MA:=fun u vl vm (hu:Below w.heap.size w u) (hl:Sts u vl (lB g)) (hm:Sts u vm (lB h))=>HM.map g h rv nv lv pv rv' nv' lv' pv' vl vm (lB g) (lB h) u hu hf hf' (hKp.out u hu) (hKp'.out u hu) hl hm n1 n2 q1 q2
      have MR:=fun u vl vm (hu:Below w.heap.size w u) (hl:Sts u vl (lB g)) (hm:Sts u vm (lB h))=>b5U g h rv nv lv pv rv' nv' lv' pv' vl vm (lB g) (lB h) u (hKp.out u hu) (hKp'.out u hu) hf.fits.bnd hf'.fits.bnd hf.fits.names hf'.fits.names hf.fits.fitN hf'.fits.fitN hl hm (by omega) (by omega) q1 q2
      by_cases hr:a1s g (lB g)=true∧a1s h (lB h)=true
      · refine ⟨mpL g h (lB g) (lB h),0,by rw [b9D];exact n1,fun u vl vm hu hl hm=>(MA u vl vm hu hl hm).mono fun e w' h9=>?_,fun u vl vm hu hl hm=>(MR u vl vm hu hl hm).mono fun e w' h9=>?_⟩
        · obtain ⟨v,e1,e2⟩:=h9.1 hr
          exact ⟨v,e1,e2,h9.2.2⟩
        · obtain ⟨v,e1,e2⟩:=h9.1 hr.1 hr.2
          exact ⟨v,e1,e2,h9.2.2⟩
      · refine ⟨[],10,Nat.zero_le _,fun u vl vm hu hl hm=>(MA u vl vm hu hl hm).mono fun e w' h9=>?_,fun u vl vm hu hl hm=>(MR u vl vm hu hl hm).mono fun e w' h9=>?_⟩
        · obtain ⟨v,e1,e2⟩:=h9.2.1 hr
          exact ⟨v,e1,e2,h9.2.2⟩
        · exact ⟨_,h9.2.1 hr,b6m w',h9.2.2⟩
     have GM:=hid GM;have GR:=hid GR;have GS:=hid (fun u va vb (ha:Nums u va ML) (hb:Nums u vb ML)=>a8D va vb ML ML u (by omega) (by omega) ha hb);rw [decide_eq_true rfl] at GS;clear hg hh hB1 hB2 k1 k2 k1W HA HM HW hf hf' hWs hlen hKp hKp';generalize lB g=L at *;generalize lB h=M at *;generalize eB g=e1 at *;generalize eB h=e2 at *;generalize g.start=st at *;generalize h.start=st' at *;go_enter Tryz.func7,Tryz.ntmps7
     go_wp2_with (first
      | (go_at_call 8;refine GW.out.mono ?_;clear GW;rintro e w1 ⟨rfl,hc1⟩;have h1:=hid hc1;obtain ⟨x0,x1,x2,x3,x4⟩:=hk1.out w1 h1.out;clear hc1)
      | (go_at_call 9;refine (GL.out _ (a_ hB.out h1.out)).mono ?_;clear GL;rintro e w2 ⟨rfl,hc2⟩;have h2:=hid (a_ h1.out hc2);clear hc2;clear x0 x1 x2 x3 x4;obtain ⟨y0,y1,y2,y3,y4⟩:=hk2.out w2 h2.out)
      | (go_at_call 9;refine (GL'.out _ (a_ hB.out h2.out)).mono ?_;clear GL';rintro e w3 ⟨rfl,hc3⟩;have h3:=hid (a_ h2.out hc3);clear hc3;clear y0 y1 y2 y3 y4;obtain ⟨x0,x1,x2,x3,x4⟩:=hk1.out w3 h3.out)
      | (go_at_call 10;refine (GA.out _ (a_ hB.out h3.out)).mono ?_;clear GA;rintro e w4 ⟨va,rfl,hS,hc4⟩;have h4:=hid (a_ h3.out hc4);have hS:=hid hS;clear hc4;clear x0 x1 x2 x3 x4;obtain ⟨y0,y1,y2,y3,y4⟩:=hk2.out w4 h4.out)
      | (go_at_call 10;refine (GB.out _ (a_ hB.out h4.out)).mono ?_;clear GB;rintro e w5 ⟨vb,rfl,hM,hc5⟩;have h5:=hid (a_ h4.out hc5);have hM:=hid (hM w5 (Below.refl _ _)).1;have hS5:=hid (hS.out w5 hc5).1;clear hc5;clear y0 y1 y2 y3 y4;obtain ⟨x0,x1,x2,x3,x4⟩:=hk1.out w5 h5.out;obtain ⟨y0,y1,y2,y3,y4⟩:=hk2.out w5 h5.out)
      | (go_at_call 19;refine (GM.out _ va vb (a_ hB.out h5.out) hS5.out hM.out).mono ?_;clear GM;rintro e w6 ⟨vx,rfl,hX,hc6⟩;have h6:=hid (a_ h5.out hc6);have hX:=hid hX;have hM6:=hid (hM.out.keep hc6);have hS6:=hid (hS5.out.keep hc6);clear hc6;clear x0 x1 x2 x3 x4 y0 y1 y2 y3 y4;obtain ⟨x0,x1,x2,x3,x4⟩:=hk1.out w6 h6.out;obtain ⟨y0,y1,y2,y3,y4⟩:=hk2.out w6 h6.out)
      | (go_at_call 20;refine (GR.out _ va vb (a_ hB.out h6.out) hS6.out hM6.out).mono ?_;clear GR;rintro e w7 ⟨vy,rfl,hY,hc7⟩;have h7:=hid (a_ h6.out hc7);have hY:=hid hY;have hX7:=hid (hX.out.keep hc7);clear hc7;clear x0 x1 x2 x3 x4 y0 y1 y2 y3 y4)
      | (go_at_call 21;refine (GS.out _ vx vy hX7.out hY.out).mono ?_;clear GS;rintro e w8 ⟨rfl,hc8⟩;have h8:=hid (a_ h7.out hc8);clear hc8))
     go_ret;exact ⟨rfl,a_ hB.out h8.out⟩
   · have GL':=hid (fun u (hu:Below w.heap.size w u)=>a1L _ _ _ _ h u (hKp'.out u hu) hf')
     clear hg hh hB1 hB2 k1 k2 k1W HA HM HW hf hf' hWs;generalize g.start=st at *;generalize h.start=st' at *;go_enter Tryz.func7,Tryz.ntmps7
     go_wp2_with (first
      | (go_at_call 8;refine GW.out.mono ?_;clear GW;rintro e w1 ⟨rfl,hc1⟩;have h1:=hid hc1;obtain ⟨x0,x1,x2,x3,x4⟩:=hk1.out w1 h1.out;clear hc1)
      | (go_at_call 9;refine (GL.out _ (a_ hB.out h1.out)).mono ?_;clear GL;rintro e w2 ⟨rfl,hc2⟩;have h2:=hid (a_ h1.out hc2);clear hc2;clear x0 x1 x2 x3 x4;obtain ⟨y0,y1,y2,y3,y4⟩:=hk2.out w2 h2.out)
      | (go_at_call 9;refine (GL'.out _ (a_ hB.out h2.out)).mono ?_;clear GL';rintro e w3 ⟨rfl,hc3⟩;have h3:=hid (a_ h2.out hc3);clear hc3;clear y0 y1 y2 y3 y4))
     go_ret;exact ⟨rfl,a_ hB.out h3.out⟩
 · have GL:=hid (fun u (hu:Below w.heap.size w u)=>a1L _ _ _ _ g u (hKp.out u hu) hf)
   clear hg hh hB1 hB2 k1 k2 k1W HA HM HW hf hWs;generalize g.start=st at *;generalize h.start=st' at *;go_enter Tryz.func7,Tryz.ntmps7
   go_wp2_with (first
    | (go_at_call 8;refine GW.out.mono ?_;clear GW;rintro e w1 ⟨rfl,hc1⟩;have h1:=hid hc1;obtain ⟨x0,x1,x2,x3,x4⟩:=hk1.out w1 h1.out;clear hc1)
    | (go_at_call 9;refine (GL.out _ (a_ hB.out h1.out)).mono ?_;clear GL;rintro e w2 ⟨rfl,hc2⟩;have h2:=hid (a_ h1.out hc2);clear hc2;clear x0 x1 x2 x3 x4))
   go_ret;exact ⟨rfl,a_ hB.out h2.out⟩
end Go.Proofs.YtjgedijclkoemaaGreatDoor
