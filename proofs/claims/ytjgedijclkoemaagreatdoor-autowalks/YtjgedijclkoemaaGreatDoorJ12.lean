/- What the five laws of layer 17 share, part 12: no statement of its own. -/
import Derived.Test.YtjgedijclkoemaaGreatDoorJ11
namespace Go.Proofs.YtjgedijclkoemaaGreatDoor
open Go.RowKit Go.Maps
set_option maxRecDepth 20000 in
set_option maxHeartbeats 16000000 in
theorem c3k (s:Txt) (w:World) (hs:s.length≤100000000) :
 Calls Tryz.prog 38 #[.string (e_ s)] w fun e w'=>∃ v,e=.returned (.tuple #[v,.int .i64 ((a0w s).2.1:Int),.int .i64 (a0w s).2.2])∧WdM w w' v (a0w s).1:=by
 have hsz:=o_ s;obtain ⟨RR,hRR⟩:∃ R,Hid (a0w s=R):=⟨_,hid rfl⟩;rw [hRR.out];by_cases h4:4000<s.length
 · have h4z:(4000:Int)<(s.length:Int):=by omega
   have e9:RR=([],0,3):=by rw [← hRR.out];exact if_pos h4
   subst e9;go_enter Tryz.func38,Tryz.ntmps38
   go_wp2;refine bodyPost_ret (results_tmp3 rfl _ _ _) rfl ?_;exact ⟨_,rfl,World.ownsRow_nil _ _ _ _,Below.refl _ _⟩
 have h4z:¬ (4000:Int)<(s.length:Int):=by omega
 have hRW:Hid (a4G s s.length (skL false s) []=RR):=hid (by rw [← hRR.out];exact (if_neg h4).symm);clear hRR;have GC:=hid (fun (u:Txt) (h0:0<u.length) (hu:u.length≤1000000) (x:World)=>c4V u x h0 hu);have GI:=hid (fun (k:Nat) (t:Txt) (h1:k=2→2≤t.length) (h2:t.length≤1000000) (x:World)=>c2c k t x h1 h2);obtain ⟨iP,hiP,zP0,zP1,zP2⟩:=info_parts Tryz.infoWd;go_enter Tryz.func38,Tryz.ntmps38
 go_wp2;go_loopw [5,6] (fun v x wr=>∃ (a:Nat) (l:List Wd),a≤s.length∧x=.int .i64 (a:Int)∧Hid (WdM w wr v l)∧Hid (WrdI s (a+skL false (s.drop a)) l)∧l.length≤a) (fun _ x _=>s.length - (intOf x).toNat)
 case atStart=>exact ⟨0,[],Nat.zero_le _,rfl,hid ⟨World.ownsRow_nil _ _ _ _,Below.refl _ _⟩,hid (by rw [Nat.zero_add,List.drop_zero];exact WrdI.start s),Nat.zero_le _⟩
 case round =>
  obtain ⟨a,l,ha,rfl,hM,hI,hla⟩:=hrel;obtain ⟨va,vc,hve⟩:=p_ hM.out.own;subst hve;by_cases hlt:a<s.length
  · have hltz:(a:Int)<(s.length:Int):=by omega
    have hltn:a<(e_ s).size:=by omega
    have hdl:(s.drop a).length=s.length - a:=List.length_drop ..
    have hex:(e_ s).extract a s.length=e_ (s.drop a):=by
     have:=a5Q s a (s.length - a)
     rwa [show a+(s.length - a)=s.length by omega,List.take_of_length_le (by omega)] at this
    have GC1:=hid (GC.out (s.drop a) (by omega) (by omega) wr);by_cases hbk:0<a3r (s.drop a)
    · rw [b4s hbk] at GC1
      have hbl:=c0B (s.drop a);rw [hdl] at hbl
      have hnx:Hid (WrdI s (a+a3r (s.drop a)+skL false (s.drop (a+a3r (s.drop a)))) l):=hid (by
       have h1:=hI.out;rw [b8J (s.drop a),List.drop_drop,← Nat.add_assoc] at h1;exact h1)
      clear hI GC GI hdl;generalize a3r (s.drop a)=n at *;generalize e_ (s.drop a)=U at *;have hnz:((n:Int) == 0)=false:=by rw [beq_eq_false_iff_ne];omega
      dsimp only at GC1;go_wp2_with (go_at_call 63;refine GC1.out.mono ?_;clear GC1;rintro e w2 ⟨rfl,hc2⟩;have hM2:=hid (hM.out.keep hc2);clear hM)
      go_roundw
      case rel=>exact ⟨a+n,l,by omega,by go_num,hM2,hnx,by omega⟩
      case measure=>simp [intOf];omega
    · have hbk0:a3r (s.drop a)=0:=by omega
      have hsk:=b5B hbk0;have hI1:=hI.out;rw [hsk,Nat.add_zero] at hI1;rw [b7i hbk0] at GC1;cases he:a8o (s.drop a) with
      | none =>
       rw [he] at GC1;have hfin:=hid (hI1.stop hlt he);clear he hI hI1 hsk hbk hbk0 hdl GC GI;generalize e_ (s.drop a)=U at *;dsimp only at GC1;go_wp2_with (go_at_call 63;refine GC1.out.mono ?_;clear GC1;rintro e w2 ⟨rfl,hc2⟩;have hM2:=hid (hM.out.keep hc2);clear hM)
       refine bodyPost_ret (results_tmp3 rfl _ _ _) rfl ?_;have e9:RR=([],a,1):=by rw [← hRW.out,hfin.out]
       rw [e9];exact ⟨_,rfl,World.ownsRow_nil _ _ _ _,hM2.out.low⟩
      | some n =>
       rw [he] at GC1;have hnl:=a8W he;rw [List.length_drop] at hnl;have hn2:=b7e he;have hnx:=hid (hI1.next hlt he);rw [b5q (show a+n≤s.length by omega)] at hnx;have hlt2:((s.drop a).take n).length=n:=by rw [List.length_take,List.length_drop];omega
       have hex2:=a5Q s a n;have hkp:=b6I ((s.drop a).headD 0).toNat;have hk2:a5m ((s.drop a).headD 0).toNat=2→2≤((s.drop a).take n).length:=fun h=>by rw [hlt2];exact hn2 (b0f h)
       have GI1:=hid (fun u=>GI.out _ _ hk2 (by omega) u);obtain ⟨E,hE⟩:∃ E:Nat,a+n=E:=⟨_,rfl⟩;rw [hE] at hex2 hnx;have hEz:(a:Int)+(n:Int)=(E:Int):=by omega
       have hEs:E≤(e_ s).size:=by omega
       have haE:a≤E:=by omega
       have haEz:(a:Int)≤(E:Int):=by omega
       have hnz:((n:Int) == 0)=false:=by rw [beq_eq_false_iff_ne];omega
       clear he hI hI1 hsk hbk hbk0 hdl GC GI hk2 hn2 hlt2;dsimp only at GC1;generalize a5m ((s.drop a).headD 0).toNat=kw at *;generalize b6M kw ((s.drop a).take n)=T at *;generalize e_ ((s.drop a).take n)=U2 at *;generalize e_ (s.drop a)=U at *;have hkz:((kw:Int) != 0)=true:=by rw [bne_iff_ne];omega
       have hno:Hid ((Value.slice va l.length vc).ownBlock≠some wr.heap.size):=hid (fun e=>by have:=(hM.out.own.lt _ e).2;omega);obtain ⟨UT,hUT⟩:∃ x,e_ T=x:=⟨_,rfl⟩;rw [hUT] at GI1
       go_wp2_with (first
        | (go_at_call 63;refine GC1.out.mono ?_;clear GC1;rintro e w2 ⟨rfl,hc2⟩;have hM2:=hid (hM.out.keep hc2);clear hM)
        | (go_at_call 64;refine (GI1.out w2).mono ?_;clear GI1;rintro e w3 ⟨rfl,hc3⟩;have hM3:=hid (hM2.out.keep hc3);clear hM2;have hCU:=hid (hM3.out.keep (al' w3 (.cells #[.int .i64 (kw:Int),.int .i64 (a:Int),.string UT] 90))))
        | (at_builtin;refine wpList_append_lies _ (by rfl) _ _ _ (by rfl) w.heap.size 90 iP (.agg #[.int .i64 0,.int .i64 0,.string ⟨#[]⟩]) 3 32 Tryz.underlying86 hiP zP0 zP1 zP2 rfl (by decide) (.slice va l.length vc) l.length (l.flatMap wdV) (by rfl) hCU.out.own ⟨w3.heap.size,0,none⟩ 1 1 [.int .i64 (kw:Int),.int .i64 (a:Int),.string UT] (by rfl) (by rfl) (World.news_of_block (b_ w3 (.cells #[.int .i64 (kw:Int),.int .i64 (a:Int),.string UT] 90))) (by simp [Value.oneCell']) (by omega) (by (unfold maxLen);omega) (by omega) hCU.out.low.size (w3.alloc (.cells #[.int .i64 (kw:Int),.int .i64 (a:Int),.string UT] 90)).heap.size rfl ?_;intro g7 c7 w7 hown7 hgrow7 hat7 hlt7;have hC7:=hid (hCU.out.push (x:=(kw,a,T)) (by rw [← hUT] at hown7;exact hown7) hgrow7);clear hown7 hgrow7 hat7 hCU))
       go_roundw
       case rel=>exact ⟨E,l++[(kw,a,T)],by omega,by go_num,hC7,hnx,by rw [List.length_append,List.length_singleton];omega⟩
       case measure=>simp [intOf];omega
  · have hltz:¬ (a:Int)<(s.length:Int):=by omega
    have hfin:=hid (hI.out.fin (by omega));go_wp2;refine bodyPost_ret (results_tmp3 rfl _ _ _) rfl ?_;have e9:RR=(l,0,0):=by rw [← hRW.out,hfin.out]
    rw [e9];exact ⟨_,rfl,hM.out⟩
abbrev Wz:=Int×Int×Txt
def zOf (x:Wd):Wz:=((x.1:Int),(x.2.1:Int),x.2.2)
def Wds (w:World) (v:Value) (l:List Wz):Prop:=∃ a cap,v=.slice a l.length cap∧∀ j,j<l.length→∃ b o,a=some ⟨b,o,none⟩∧b<w.heap.size∧w.cell? ⟨b,o+j * 3,none⟩=some (.int .i64 (l.getD j (0,0,[])).1)∧w.cell? ⟨b,o+j * 3+1,none⟩=some (.int .i64 (l.getD j (0,0,[])).2.1)∧w.cell? ⟨b,o+j * 3+2,none⟩=some (.string (e_ (l.getD j (0,0,[])).2.2))
theorem Wds.shape {w:World} {v:Value} {l:List Wz} (h:Wds w v l):∃ a c,v=.slice a l.length c:=by obtain ⟨a,c,e,_⟩:=h;exact ⟨a,c,e⟩
theorem Wds.at {w:World} {a:Option Addr} {n c:Nat} {l:List Wz} (h:Wds w (.slice a n c) l) {j:Nat} (hj:j<l.length):∃ b o,a=some ⟨b,o,none⟩∧w.cell? ⟨b,o+j * 3,none⟩=some (.int .i64 (l.getD j (0,0,[])).1)∧w.cell? ⟨b,o+j * 3+1,none⟩=some (.int .i64 (l.getD j (0,0,[])).2.1)∧w.cell? ⟨b,o+j * 3+2,none⟩=some (.string (e_ (l.getD j (0,0,[])).2.2)):=by
 obtain ⟨a',c',e,hat⟩:=h;injection e with e1 _ _;subst e1;obtain ⟨b,o,e1,_,h2,h3,h4⟩:=hat j hj;exact ⟨b,o,e1,h2,h3,h4⟩
theorem Wds.of_own {w:World} {B:Nat} {v:Value} {l:List Wd} (h:c4p w B v l):Wds w v (l.map zOf):=by
 obtain ⟨a,c,e⟩:=p_ h;refine ⟨a,c,by rw [e,List.length_map],fun j hj=>?_⟩;rw [List.length_map] at hj;obtain ⟨g,c',e',_⟩:=a2p h (show 0<l.length by omega);rw [e] at e';injection e' with e1 _ e3;subst e1 e3;have ho:=h;rw [e] at ho;have hg:=(h.lt g (by rw [e];rfl)).2
 have hfl:∀ (P:List Wd) (k:Nat),k<P.length→(P.flatMap wdV)[k * 3]?=some (.int .i64 ((P.map zOf).getD k (0,0,[])).1)∧(P.flatMap wdV)[k * 3+1]?=some (.int .i64 ((P.map zOf).getD k (0,0,[])).2.1)∧(P.flatMap wdV)[k * 3+2]?=some (.string (e_ ((P.map zOf).getD k (0,0,[])).2.2)):=by
  intro P
  induction P with
  | nil=>intro k hk;exact absurd hk (Nat.not_lt_zero _)
  | cons a l ih =>
   intro k hk;rw [List.flatMap_cons];cases k with
   | zero=>exact ⟨rfl,rfl,rfl⟩
   | succ k =>
    have h1:=ih k (by simpa using hk);have e1:(k+1) * 3=(wdV a).length+k * 3:=by show _=3+_;omega
    have e2:(k+1) * 3+1=(wdV a).length+(k * 3+1):=by show _=3+_;omega
    have e3:(k+1) * 3+2=(wdV a).length+(k * 3+2):=by show _=3+_;omega
    rw [e3,List.getElem?_append_right (Nat.le_add_right _ _),Nat.add_sub_cancel_left,e2,List.getElem?_append_right (Nat.le_add_right _ _),Nat.add_sub_cancel_left,e1,List.getElem?_append_right (Nat.le_add_right _ _),Nat.add_sub_cancel_left];exact h1
 obtain ⟨f1,f2,f3⟩:=hfl l j hj;refine ⟨g,0,rfl,hg,?_,?_,?_⟩
 · rw [Nat.zero_add];exact (ho.cellAt (j * 3) (by omega)).trans f1
 · rw [Nat.zero_add];exact (ho.cellAt (j * 3+1) (by omega)).trans f2
 · rw [Nat.zero_add];exact (ho.cellAt (j * 3+2) (by omega)).trans f3
theorem Z_ (s:Txt):(e_ s).toList=s:=by rw [ByteArray.toList_eq];rfl
end Go.Proofs.YtjgedijclkoemaaGreatDoor
namespace Go.Proofs.YtjgedijclkoemaaGreatDoor
open Go.ChangeShapes Go.WideShapes Go.ChangeAt Go.RowKit Go.Sort Go.Maps Go.Lib
set_option maxRecDepth 20000 in
theorem Tryz.cellsOf3:Tryz.prog.cellsOf 3=1:=by kernel_rfl
set_option maxRecDepth 20000 in
theorem Tryz.cellsOf202:Tryz.prog.cellsOf 202=4:=by kernel_rfl
set_option maxRecDepth 20000 in
theorem Tryz.cellsOf204:Tryz.prog.cellsOf 204=5:=by kernel_rfl
set_option maxRecDepth 20000 in
theorem Tryz.cellsOf41:Tryz.prog.cellsOf 41=1:=by kernel_rfl
set_option maxRecDepth 20000 in
theorem Tryz.cellsOf60:Tryz.prog.cellsOf 60=1:=by kernel_rfl
theorem Kept.cell {F:Nat→Prop} {w w':World} (h:Kept F w w') {b o:Nat} {v:Value} (hc:w.cell? ⟨b,o,.none⟩=some v) (hb:b<w.heap.size) (hn:¬ F b):w'.cell? ⟨b,o,.none⟩=some v:=by
 simp only [World.cell?,h.block b hb hn] at hc ⊢;exact hc
theorem a2A {n:Int} (h:(Lit.int .u64 n).wf=true):0≤n∧n<18446744073709551616:=by
 have h1:IntKind.u64.min=0:=by decide
 have h2:IntKind.u64.max=18446744073709551615:=by decide
 simp [Lit.wf] at h
 omega
theorem b4R {n:Int} (h:(Lit.int .i64 n).wf=true):-9223372036854775808≤n∧n≤9223372036854775807:=by
 have h1:IntKind.i64.min = -9223372036854775808:=by decide
 have h2:IntKind.i64.max=9223372036854775807:=by decide
 simp [Lit.wf] at h
 omega
instance:Inhabited W4:=⟨⟨0,0,0,0⟩⟩
instance:Inhabited Cel:=⟨⟨0,⟨0,0,0,0⟩⟩⟩
set_option maxRecDepth 100000 in
theorem a8z {H:Type} {enc:TypeId×Value→H} {W:World} {a1M:Nat} {cs:List Value} {x:DataW H×List MemPlace} (hf:DataW.trod enc Tryz.prog W 0 (fun _=>true) true a1M 202 cs=some x) :
 ∃ S:W4,Fit4 S∧cs=[.int .u64 (S.a:Int),.int .u64 (S.b:Int),.int .u64 (S.c:Int),.int .u64 (S.d:Int)]:=by
 cases a1M with
 | zero=>simp [DataW.trod] at hf
 | succ m =>
  rw [DataW.trod_step] at hf;unfold DataW.trodStep at hf;simp only [Tryz.underlying202,Tryz.cellsOf202,Tryz.cells163] at hf;split at hf
  case isFalse=>cases hf
  rename_i hlen
  simp only [Option.map_eq_some_iff] at hf;obtain ⟨ys,hy,_⟩:=hf;rw [show List.range 4=[0,1,2,3] from rfl] at hy;simp only [List.mapM_cons,List.mapM_nil,bind,Option.bind_eq_some_iff,pure] at hy;obtain ⟨y0,h0,z0,⟨y1,h1,z1,⟨y2,h2,z2,⟨y3,h3,_⟩,_⟩,_⟩,_⟩:=hy;obtain ⟨n0,e0,_,w0⟩:=DataW.trod_int Tryz.underlying163 h0;obtain ⟨n1,e1,_,w1⟩:=DataW.trod_int Tryz.underlying163 h1;obtain ⟨n2,e2,_,w2⟩:=DataW.trod_int Tryz.underlying163 h2;obtain ⟨n3,e3,_,w3⟩:=DataW.trod_int Tryz.underlying163 h3
  match cs,hlen with
  | [c0,c1,c2,c3],_ =>
   simp at e0 e1 e2 e3
   subst e0 e1 e2 e3;have b0:=a2A w0;have b1:=a2A w1;have b2:=a2A w2;have b3:=a2A w3;refine ⟨⟨n0.toNat,n1.toNat,n2.toNat,n3.toNat⟩,⟨?_,?_,?_,?_⟩,?_⟩
   · simp only;omega
   · simp only;omega
   · simp only;omega
   · simp only;omega
   · simp only [Int.toNat_of_nonneg b0.1,Int.toNat_of_nonneg b1.1,Int.toNat_of_nonneg b2.1,Int.toNat_of_nonneg b3.1]
set_option maxRecDepth 100000 in
theorem a9c {H:Type} {enc:TypeId×Value→H} {W:World} {a1M:Nat} {cs:List Value} {x:DataW H×List MemPlace} (hl:cs.length=5) (hf:DataW.trod enc Tryz.prog W 0 (fun _=>true) true a1M 204 cs=some x) :
 ∃ c:Cel,FitC c∧∀ j,j<5→cs[j]?=some (cellV c j):=by
 obtain ⟨y0,y1,m,rfl,_,t0,t1⟩:=trod_struct2 Tryz.underlying204 hf;obtain ⟨z,e0,_,wz⟩:=DataW.trod_int Tryz.underlying3 t0;obtain ⟨S,hS,e1⟩:=a8z t1;have bz:=b4R wz
 match cs,hl with
 | [c0,c1,c2,c3,c4],_ =>
  simp [Tryz.cellsOf3,Tryz.cellsOf202] at e0 e1
  obtain ⟨r1,r2,r3,r4⟩:=e1;subst e0 r1 r2 r3 r4;refine ⟨⟨z,S⟩,⟨bz.1,bz.2,hS⟩,fun j hj=>?_⟩;have h5:j=0∨j=1∨j=2∨j=3∨j=4:=by omega
  rcases h5 with rfl | rfl | rfl | rfl | rfl <;> rfl
set_option maxRecDepth 20000 in
theorem a7w {H:Type} {enc:TypeId×Value→H} {W:World} {a1M:Nat} {cs:List Value} {x:DataW H×List MemPlace} (hf:DataW.trod enc Tryz.prog W 0 (fun _=>true) true a1M 41 cs=some x) :
 ∃ (l:List Int) (v:Value),cs=[v]∧Nums W v l∧l.length≤9223372036854775807:=by
 rcases open_ints Tryz.underlying41 Tryz.underlying3 Tryz.cells3 hf with ⟨hcs,_⟩ | ⟨a,len,cap,zs,hcs,_,hl,hm,hz,_,hcells,hwf⟩
 · exact ⟨[],_,hcs,Nums.nil _,by simp⟩
 · have hz':zs.length=cap:=by simpa using hz
   have hlen:(zs.take len).length=len:=by rw [List.length_take];omega
   unfold maxLen at hm;refine ⟨zs.take len,_,hcs,⟨some a,cap,by rw [hlen],by omega,fun h=>(by cases h),fun j hj=>?_⟩,by omega⟩;have hj':j<zs.length:=by omega
   obtain ⟨b,off,rfl⟩:∃ b o,a=⟨b,o,none⟩:=by
    have h0:=hcells 0 (by omega);obtain ⟨b,off,spot⟩:=a;have hspot:spot=none:=by simpa [Addr.add] using World.cell?_spot h0
    exact ⟨b,off,by rw [hspot]⟩
   have hc:=hcells j hj';rw [Go.WideShapes.add_plain] at hc;refine ⟨b,off,rfl,World.block_lt_of_cell? _ _ hc,?_⟩;rw [hc,List.getD_eq_getElem?_getD,List.getElem?_eq_getElem hj',List.getElem_take];rfl
set_option maxRecDepth 20000 in
theorem a8b {H:Type} {enc:TypeId×Value→H} {W:World} {a1M:Nat} {cs:List Value} {x:DataW H×List MemPlace} (hf:DataW.trod enc Tryz.prog W 0 (fun _=>true) true a1M 60 cs=some x) :
 ∃ (l:List Cel) (v:Value),cs=[v]∧Cels W v l:=by
 rcases Deep.open_slice Tryz.underlying60 hf with ⟨hcs,_⟩ | ⟨a,len,cap,m,n,D,Pl,hcs,_,hl,hm,hmm,_,hx⟩
 · exact ⟨[],_,hcs,⟨none,0,rfl,Nat.le_refl _,fun _=>rfl,fun S hS=>absurd hS (List.not_mem_nil),fun j hj=>absurd hj (Nat.not_lt_zero _)⟩⟩
 · have hm':m=cap:=by simpa using hmm
   have hone:∀ i,i<len→∃ c:Cel,FitC c∧∀ j,j<5→W.cell? ((a.add (i * 5)).add j)=some (cellV c j):=by
    intro i hi;obtain ⟨cs',hc,ht⟩:=hx i (by omega);rw [Tryz.cellsOf204] at hc;have hcl:=(World.cells?_some hc).2.1;obtain ⟨c,hF,hcc⟩:=a9c hcl ht;refine ⟨c,hF,fun j hj=>?_⟩;rw [(World.cells?_some hc).2.2 j hj];exact hcc j hj
   obtain ⟨E,hE⟩:=Deep.choose_lt hone;unfold maxLen at hm;refine ⟨(List.range len).map E,_,by rw [hcs],⟨some a,cap,by simp,by simp;omega,fun h=>(by cases h),fun c hc=>?_,fun j hj=>?_⟩⟩
   · rw [List.mem_map] at hc
     obtain ⟨i,hi,rfl⟩:=hc;rw [List.mem_range] at hi;exact (hE i hi).1
   · have hj':j<len:=by simpa using hj
     obtain ⟨b,off,rfl⟩:∃ b o,a=⟨b,o,none⟩:=by
      have h0:=(hE 0 (by omega)).2 0 (by omega);obtain ⟨b,off,spot⟩:=a;have hspot:spot=none:=by simpa [Addr.add] using World.cell?_spot h0
      exact ⟨b,off,by rw [hspot]⟩
     have hc:=(hE j hj').2;simp only [Go.WideShapes.add_plain] at hc;refine ⟨b,off,rfl,World.block_lt_of_cell? _ _ (hc 0 (by omega)),?_⟩;simp only [List.getElem_map,List.getElem_range];exact b8u hc
end Go.Proofs.YtjgedijclkoemaaGreatDoor
