/- What AutoWalks alone needs of layer 17: no statement of its own. -/
import Derived.Test.YtjgedijclkoemaaGreatDoorJ26
namespace Go.Proofs.YtjgedijclkoemaaGreatDoor
open Go.RowKit Go.ChangeShapes Go.WideShapes Go.ChangeAt
set_option maxRecDepth 20000 in
theorem b3o {H:Type} {enc:TypeId×Value→H} {W:World} {v:Value} {d:DataW H} {p:List MemPlace} {base:Nat} (hv:Value.okWide Tryz.prog W .any base 41 v)
 (h:DataW.Trod enc Tryz.prog W 0 (fun _=>true) true 41 v d p) :
 ∃ (l:List Int) (ao:Option Addr) (cap:Nat),v=.slice ao l.length cap∧Nums W v l∧l.length≤9223372036854775807∧∀ x∈l,-9223372036854775808≤x∧x≤9223372036854775807:=by
 obtain ⟨ao,len,cap,rfl⟩:=okWide_slice Tryz.underlying41 hv;obtain ⟨a1M,hf⟩:=h;rcases open_ints Tryz.underlying41 Tryz.underlying3 Tryz.cells3 hf with ⟨hcs,_⟩ | ⟨a,len',cap',zs,hcs,_,hl,hm,hz,_,hcells,hwf⟩
 · simp [Value.cells] at hcs
   obtain ⟨rfl,rfl,rfl⟩:=hcs;exact ⟨[],none,0,rfl,Nums.nil _,by simp,by simp⟩
 · simp [Value.cells] at hcs
   obtain ⟨rfl,rfl,rfl⟩:=hcs;have hz':zs.length=cap:=by simpa using hz
   have hlen:(zs.take len).length=len:=by rw [List.length_take];omega
   unfold maxLen at hm;refine ⟨zs.take len,some a,cap,by rw [hlen],⟨some a,cap,by rw [hlen],by omega,fun h=>(by cases h),fun j hj=>?_⟩,by omega,fun x hx=>?_⟩
   · have hj':j<zs.length:=by omega
     have hc:=hcells j hj';obtain ⟨b,off,spot⟩:=a;have hspot:spot=none:=by simpa [Addr.add] using World.cell?_spot (hcells 0 (by omega))
     subst hspot;rw [Go.WideShapes.add_plain] at hc;refine ⟨b,off,rfl,World.block_lt_of_cell? _ _ hc,?_⟩;rw [hc,List.getD_eq_getElem?_getD,List.getElem?_eq_getElem hj',List.getElem_take];rfl
   · exact bounds_i64 (hwf x (List.mem_of_mem_take hx))
end Go.Proofs.YtjgedijclkoemaaGreatDoor
namespace Go.Proofs.YtjgedijclkoemaaGreatDoor
open Go.RowKit Go.Maps Go.Sort
theorem b3q (l:List Int):StabB fun w v=>Nums w v l:=fun _ _ _ h hs hb=>h.stepB hs hb
theorem StabB.low {H:World→Value→Prop} (h:StabB H):c3c H:=fun w w' v h1 hs hb=>h w w' v h1 hs (fun k _ hk=>hb k hk)
def c3j (l:List Int):Cl:=⟨none,none,none,some ⟨_,(b3q l).low⟩⟩
theorem b3r {l:List Int} {v:Value} {w0:World} {τ:Nat→Nat} {w:World} (h:(c3j l).holds w0 τ w v):Nums w v l:=h.2.2.2 _ rfl
theorem b3T {l:List Int} {v:Value} {w0:World} {τ:Nat→Nat} {w:World} (h:Nums w v l):(c3j l).holds w0 τ w v:=⟨fun _ e=>(by cases e),fun _ _ e=>(by cases e),fun _ e=>(by cases e),fun _ e=>(by cases e;exact h)⟩
def wlk (L:List St):Int→List Int→Int
 | f,[]=>if 0≤f∧f<(L.length:Int) then f else -1
 | f,s :: t=>if 0≤f∧f<(L.length:Int) then (if 0≤s∧s<((L.getD f.toNat ([],[])).2.length:Int) then wlk L ((L.getD f.toNat ([],[])).2.getD s.toNat 0) t else -1) else -1
theorem a0L {L:List St} {f:Int} (h:¬ (0≤f∧f<(L.length:Int))) (t:List Int):wlk L f t = -1:=by
 cases t with
 | nil=>exact if_neg h
 | cons s t=>exact if_neg h
theorem a8r {L:List St} {f:Int} (h:0≤f∧f<(L.length:Int)):wlk L f []=f:=if_pos h
theorem a9n {L:List St} {f s:Int} {t:List Int} (h:0≤f∧f<(L.length:Int)) (hs:¬ (0≤s∧s<((L.getD f.toNat ([],[])).2.length:Int))):wlk L f (s :: t) = -1:=by
 show (if _ then (if _ then _ else _) else _)=_
 rw [if_pos h,if_neg hs]
theorem a5D {L:List St} {f s:Int} {t:List Int} (h:0≤f∧f<(L.length:Int)) (hs:0≤s∧s<((L.getD f.toNat ([],[])).2.length:Int)):wlk L f (s :: t)=wlk L ((L.getD f.toNat ([],[])).2.getD s.toNat 0) t:=by
 show (if _ then (if _ then _ else _) else _)=_
 rw [if_pos h,if_pos hs]
theorem b1W (L:List St):∀ (a b:List Int) (f:Int),wlk L f (a++b)=wlk L (wlk L f a) b
 | [],b,f=>by
  by_cases h:0≤f∧f<(L.length:Int)
  · rw [a8r h];rfl
  · rw [a0L h,a0L h,a0L (f:=-1) (by omega)]
 | s :: a,b,f=>by
  by_cases h:0≤f∧f<(L.length:Int)
  · by_cases hs:0≤s∧s<((L.getD f.toNat ([],[])).2.length:Int)
    · rw [List.cons_append,a5D h hs,a5D h hs]
      exact b1W L a b _
    · rw [List.cons_append,a9n h hs,a9n h hs,a0L (f:=-1) (by omega)]
  · rw [a0L h,a0L h,a0L (f:=-1) (by omega)]
set_option maxRecDepth 100000 in
set_option maxHeartbeats 8000000 in
theorem b2J (vl vt:Value) (L:List St) (f:Int) (t:List Int) (w:World) (hL:Sts w vl L) (ht:Nums w vt t) (_hl:L.length≤100000) (htl:t.length≤1000000) (hlk:∀ x:St,x∈L→x.2.length≤1000000) :
 Calls Tryz.prog 15 #[vl,.int .i64 f,vt] w fun e w'=>e=.returned (.int .i64 (wlk L f t))∧Below w.heap.size w w':=by
 obtain ⟨a,ac,rfl⟩:=hL.shape;obtain ⟨ta,tc,rfl,ht1,ht2,ht3⟩:=ht
 have hatL:=hid (fun u (hu:Below w.heap.size w u) j (hj:j<L.length)=>by
  obtain ⟨b',o,e,-,vk,vn,h1,h2,h3,h4⟩:=(Sts.keep hL hu).at hj;exact (⟨b',o,e,vn,h2,h4⟩:∃ b' o,a=some ⟨b',o,none⟩∧∃ vn,u.cell? ⟨b',o+j * 2+1,none⟩=some vn∧Nums u vn L[j].2))
 have hatT:=hid (fun u (hu:Below w.heap.size w u) j (hj:j<t.length)=>by
  obtain ⟨b,o,e,-,h⟩:=ht3 j hj;exact (⟨b,o,e,d_ hu h⟩:∃ b o,ta=some ⟨b,o,none⟩∧u.cell? ⟨b,o+j,none⟩=some (.int .i64 t[j])))
 have b0:=hid (Below.refl w.heap.size w);have hlk:=hid hlk;have h0:Hid (wlk L f (t.drop 0)=wlk L f t):=hid rfl;clear hL ht1 ht2 ht3;generalize wlk L f t=R at *;obtain ⟨n,hn⟩:∃ n,Hid (t.length=n):=⟨_,hid rfl⟩;obtain ⟨ll,hll⟩:∃ n,Hid (L.length=n):=⟨_,hid rfl⟩;rw [hn.out] at htl ⊢;rw [hll.out];go_enter Tryz.func15,Tryz.ntmps15
 go_wp2;go_loopw [1,7] (fun f i wr=>∃ (z:Int) (k:Nat),k≤n∧f=.int .i64 z∧i=.int .i64 (k:Int)∧Hid (wlk L z (t.drop k)=R)∧Hid (Below w.heap.size w wr)) (fun _ i _=>n+1 - (intOf i).toNat)
 case atStart=>exact ⟨f,0,Nat.zero_le _,rfl,rfl,h0,b0⟩
 case round =>
  clear h0 b0;obtain ⟨z,k,hk,rfl,rfl,hR,hbl⟩:=hrel;have hkz:(k:Int)≤(n:Int):=by omega
  by_cases hz:0≤z∧z<(ll:Int)
  · obtain ⟨j,hj⟩:∃ j:Nat,z=(j:Int):=⟨z.toNat,by omega⟩
    subst hj;have hjl:j<L.length:=by rw [hll.out];omega
    have hjz:(j:Int)<(ll:Int):=hz.2;have hzL:0≤(j:Int)∧(j:Int)<(L.length:Int):=by rw [hll.out];exact hz
    clear hz;by_cases hlt:k<n
    · have hltz:¬ (k:Int)=(n:Int):=by omega
      have hkl:k<t.length:=by rw [hn.out];exact hlt
      obtain ⟨b1,o1,e,vn,x1,hN⟩:=hatL.out wr hbl.out j hjl;subst e;obtain ⟨b2,o2,e,z1⟩:=hatT.out wr hbl.out k hkl;subst e;have hd:t.drop k=t[k] :: t.drop (k+1):=(List.getElem_cons_drop hkl).symm
      have hg:(L.getD ((j:Nat):Int).toNat ([],[])).2=L[j].2:=by
       rw [Int.toNat_natCast,List.getD_eq_getElem?_getD,List.getElem?_eq_getElem hjl,Option.getD_some]
      have hR0:=hR.out;rw [hd] at hR0;have hlx:=hlk.out _ (List.getElem_mem hjl);by_cases hs:0≤t[k]∧t[k]<(L[j].2.length:Int)
      · obtain ⟨s,hsk⟩:∃ s:Nat,t[k]=(s:Int):=⟨t[k].toNat,by omega⟩
        rw [a5D hzL (by rw [hg];exact hs),hg,hsk,Int.toNat_natCast] at hR0;have hsl:s<L[j].2.length:=by omega
        obtain ⟨b3,o3,cp,rfl,-,-,h3⟩:=hN.at (by omega);have x3:=h3 s hsl;rw [List.getD_eq_getElem?_getD,List.getElem?_eq_getElem hsl,Option.getD_some] at hR0;have hR9:=hid hR0;rw [hsk] at z1;clear h3 hN;have hsz:(s:Int)<(L[j].2.length:Int):=by omega
        clear hR0 hs hsk hd hg hR hzL;generalize L[j].2[s]=z9 at *;clear hsl;generalize L[j].2.length=sl at *;go_wp2_with fail
        go_quiet (fail)
        go_wp2_with fail
        go_quiet (fail)
        go_wp2;go_roundw
        case rel=>exact ⟨z9,k+1,by omega,rfl,by go_num,hR9,hid (by first | exact hbl.out | exact q_ hbl.out | exact q_ (q_ hbl.out))⟩
        case measure=>simp [intOf];omega
      · rw [a9n hzL (by rw [hg];exact hs)] at hR0
        subst hR0;obtain ⟨na,nc,rfl,-⟩:=hN;by_cases hneg:t[k]<0
        · clear hs hd hg hR hzL
          generalize t[k]=s at *;generalize L[j].2.length=sl at *;go_wp2_with fail
          go_quiet (fail)
          go_wp2;go_ret;exact ⟨rfl,by first | exact hbl.out | exact q_ hbl.out | exact q_ (q_ hbl.out)⟩
        · have hge:(L[j].2.length:Int)≤t[k]:=by omega
          clear hs hd hg hR hzL;generalize t[k]=s at *;generalize L[j].2.length=sl at *;go_wp2_with fail
          go_quiet (fail)
          go_wp2;go_ret;exact ⟨rfl,by first | exact hbl.out | exact q_ hbl.out | exact q_ (q_ hbl.out)⟩
    · obtain rfl:k=n:=by omega
      have hR0:=hR.out;rw [← hn.out,List.drop_length,a8r hzL] at hR0;subst hR0;clear hR hzL hjl;go_wp2;go_ret;exact ⟨rfl,hbl.out⟩
  · have hR0:=hR.out
    rw [a0L (by rw [hll.out];exact hz)] at hR0;subst hR0;clear hR;by_cases hneg:z<0
    · clear hz
      go_wp2;go_ret;exact ⟨rfl,hbl.out⟩
    · have hge:(ll:Int)≤z:=by omega
      clear hz;go_wp2;go_ret;exact ⟨rfl,hbl.out⟩
structure AutW:Prop where
 walk:∀ (vl vt:Value) (L:List St) (f:Int) (t:List Int) (u:World),Sts u vl L→Nums u vt t→L.length≤240→(∀ x:St,x∈L→x.1.length≤1000∧x.2.length≤1000)→t.length≤60→Calls Tryz.prog 14 #[vl,.int .i64 f,vt] u fun e w'=>e=.returned (.int .i64 (wlk L f t))∧Below u.heap.size u w'
end Go.Proofs.YtjgedijclkoemaaGreatDoor
namespace Go.Proofs.YtjgedijclkoemaaGreatDoor
open Go.ChangeShapes Go.WideShapes Go.ChangeAt Go.RowKit
section
variable {H:Type} {enc:TypeId×Value→H} {W:World}
set_option maxRecDepth 20000 in
theorem b1m {ao:Option Addr} {len cap:Nat} {d:DataW H} {p:List MemPlace} (h:DataW.Trod enc Tryz.prog W 0 (fun _=>true) true 41 (.slice ao len cap) d p):len=0∨∃ elems spare,d=.slice elems spare∧elems.length=len:=by
 obtain ⟨a1M,hf⟩:=h;rcases open_ints Tryz.underlying41 Tryz.underlying3 Tryz.cells3 hf with ⟨hcs,_⟩ | ⟨a,len',cap',zs,hcs,_,hl,hm,hz,hd,hcells,hwf⟩
 · simp [Value.cells] at hcs
   exact .inl hcs.2.1
 · simp [Value.cells] at hcs
   obtain ⟨rfl,rfl,rfl⟩:=hcs;have hz':zs.length=cap:=by simpa using hz
   exact .inr ⟨_,_,congrArg Prod.fst hd,by simp [lits];omega⟩
end
set_option maxRecDepth 20000 in
theorem b1l {H:Type} {ts:List TypeId} {ds:List (DataW H)} {d:DataW H} {len:Nat} (hsz:(DataW.weightsEach Tryz.prog ts ds).all (·≤reachBytes)=true) {j:Nat} (ht:ts[j]?=some 41) (hd:ds[j]?=some d) (h:len=0∨∃ elems spare,d=.slice elems spare∧elems.length=len):len≤140737488355328:=by
 rcases h with rfl | ⟨elems,spare,rfl,he⟩
 · omega
 · have:=sized_slice hsz (j:=j) ht hd Tryz.underlying41
   rw [show Tryz.prog.bytesOf 3=8 by kernel_rfl] at this
   have:=reachBytes_lt
   omega
end Go.Proofs.YtjgedijclkoemaaGreatDoor
namespace Go.Proofs.YtjgedijclkoemaaGreatDoor
open Go.RowKit Go.Maps Go.Sort
set_option maxRecDepth 20000 in
theorem inC (a b:Int) (w:World):Calls Tryz.prog 32 #[.int .i64 a,.int .i64 b] w fun e w'=>e=.returned (.bool (decide (0≤a∧a<b)))∧w'=w:=by
 by_cases h:0≤a
 · by_cases h2:a<b
   · rw [decide_eq_true ⟨h,h2⟩]
     go_enter Tryz.func32,Tryz.ntmps32
     go_wp2;go_ret;exact ⟨rfl,rfl⟩
   · rw [decide_eq_false (fun e=>h2 e.2)]
     go_enter Tryz.func32,Tryz.ntmps32
     go_wp2;go_ret;exact ⟨rfl,rfl⟩
 · rw [decide_eq_false (fun e=>h e.1)]
   go_enter Tryz.func32,Tryz.ntmps32
   go_wp2;go_ret;exact ⟨rfl,rfl⟩
set_option maxRecDepth 100000 in
set_option maxHeartbeats 8000000 in
theorem c3o (vl vt:Value) (L:List St) (f:Int) (t:List Int) (w:World) (hL:Sts w vl L) (ht:Nums w vt t) (_hl:L.length≤100000) (htl:t.length≤1000000) (hlk:∀ x:St,x∈L→x.2.length≤1000000) :
 Calls Tryz.prog 14 #[vl,.int .i64 f,vt] w fun e w'=>e=.returned (.int .i64 (wlk L f t))∧Below w.heap.size w w':=by
 obtain ⟨a,ac,rfl⟩:=hL.shape;obtain ⟨ta,tc,rfl,ht1,ht2,ht3⟩:=ht
 have hatL:=hid (fun u (hu:Below w.heap.size w u) j (hj:j<L.length)=>by
  obtain ⟨b',o,e,-,vk,vn,h1,h2,h3,h4⟩:=(Sts.keep hL hu).at hj;exact (⟨b',o,e,vn,h2,h4⟩:∃ b' o,a=some ⟨b',o,none⟩∧∃ vn,u.cell? ⟨b',o+j * 2+1,none⟩=some vn∧Nums u vn L[j].2))
 have hatT:=hid (fun u (hu:Below w.heap.size w u) j (hj:j<t.length)=>by
  obtain ⟨b,o,e,-,h⟩:=ht3 j hj;exact (⟨b,o,e,d_ hu h⟩:∃ b o,ta=some ⟨b,o,none⟩∧u.cell? ⟨b,o+j,none⟩=some (.int .i64 t[j])))
 have b0:=hid (Below.refl w.heap.size w);have hlk:=hid hlk;have hIn:=hid inC;by_cases hf:0≤f∧f<(L.length:Int)
 · have h0:Hid (wlk L f (t.drop 0)=wlk L f t):=hid rfl
   clear hL ht1 ht2 ht3;generalize wlk L f t=R at *;obtain ⟨n,hn⟩:∃ n,Hid (t.length=n):=⟨_,hid rfl⟩;obtain ⟨ll,hll⟩:∃ n,Hid (L.length=n):=⟨_,hid rfl⟩;rw [hn.out] at htl ⊢;rw [hll.out] at hf ⊢;have hf0:=hid hf;have G0:=hid (fun u=>hIn.out f (ll:Int) u);rw [decide_eq_true hf] at G0;clear hf;go_enter Tryz.func14,Tryz.ntmps14
   go_wp2_with (go_at_call 32;refine (G0.out _).mono ?_;clear G0;rintro e w1 ⟨rfl,rfl⟩)
   go_loopw [1,17] (fun f i wr=>∃ (z:Int) (k:Nat),k≤n∧f=.int .i64 z∧i=.int .i64 (k:Int)∧Hid (0≤z∧z<(ll:Int))∧Hid (wlk L z (t.drop k)=R)∧Hid (Below w1.heap.size w1 wr)) (fun _ i _=>n - (intOf i).toNat)
   case atStart=>exact ⟨f,0,Nat.zero_le _,rfl,rfl,hf0,h0,b0⟩
   case round =>
    clear h0 b0;obtain ⟨z,k,hk,rfl,rfl,hz,hR,hbl⟩:=hrel;obtain ⟨j,hj⟩:∃ j:Nat,z=(j:Int):=⟨z.toNat,by have:=hz.out;omega⟩;subst hj;have hjl:j<L.length:=by rw [hll.out];have:=hz.out;omega
    have hjz:(j:Int)<(ll:Int):=hz.out.2;have hzL:0≤(j:Int)∧(j:Int)<(L.length:Int):=by rw [hll.out];exact hz.out
    clear hz;by_cases hlt:k<n
    · have hltz:(k:Int)<(n:Int):=by omega
      have hkl:k<t.length:=by rw [hn.out];exact hlt
      obtain ⟨b1,o1,e,vn,x1,hN⟩:=hatL.out wr hbl.out j hjl;subst e;obtain ⟨b2,o2,e,z1⟩:=hatT.out wr hbl.out k hkl;subst e;have hd:t.drop k=t[k] :: t.drop (k+1):=(List.getElem_cons_drop hkl).symm
      have hg:(L.getD ((j:Nat):Int).toNat ([],[])).2=L[j].2:=by
       rw [Int.toNat_natCast,List.getD_eq_getElem?_getD,List.getElem?_eq_getElem hjl,Option.getD_some]
      have hR0:=hR.out;rw [hd] at hR0;have hlx:=hlk.out _ (List.getElem_mem hjl);have G1:=hid (fun u=>hIn.out t[k] (L[j].2.length:Int) u);by_cases hs:0≤t[k]∧t[k]<(L[j].2.length:Int)
      · rw [decide_eq_true hs] at G1
        obtain ⟨s,hsk⟩:∃ s:Nat,t[k]=(s:Int):=⟨t[k].toNat,by omega⟩;rw [a5D hzL (by rw [hg];exact hs),hg,hsk,Int.toNat_natCast] at hR0;have hsl:s<L[j].2.length:=by omega
        obtain ⟨b3,o3,cp,rfl,-,-,h3⟩:=hN.at (by omega);have x3:=h3 s hsl;rw [List.getD_eq_getElem?_getD,List.getElem?_eq_getElem hsl,Option.getD_some] at hR0;rw [hsk] at z1 G1;clear h3 hN;have hsz:(s:Int)<(L[j].2.length:Int):=by omega
        have G2:=hid (fun u=>hIn.out L[j].2[s] (ll:Int) u);by_cases h9:0≤L[j].2[s]∧L[j].2[s]<(ll:Int)
        · rw [decide_eq_true h9] at G2
          have hR9:=hid hR0;have h9:=hid h9;clear hR0 hs hsk hd hg hR hzL;generalize L[j].2[s]=z9 at *;clear hsl;generalize L[j].2.length=sl at *
          go_wp2_with (first
           | (go_at_call_of 32 (Value.int .i64 (s:Int));refine (G1.out _).mono ?_;clear G1;rintro e w2 ⟨rfl,rfl⟩)
           | (go_at_call 32;refine (G2.out _).mono ?_;clear G2;rintro e w3 ⟨rfl,rfl⟩))
          go_roundw
          case rel=>exact ⟨z9,k+1,by omega,rfl,by go_num,h9,hR9,hid (by first | exact hbl.out | exact q_ hbl.out | exact q_ (q_ hbl.out))⟩
          case measure=>simp [intOf];omega
        · rw [decide_eq_false h9] at G2
          rw [a0L (by rw [hll.out];exact h9)] at hR0;subst hR0;clear hs hsk hd hg hR hzL h9;generalize L[j].2[s]=z9 at *;clear hsl;generalize L[j].2.length=sl at *
          go_wp2_with (first
           | (go_at_call_of 32 (Value.int .i64 (s:Int));refine (G1.out _).mono ?_;clear G1;rintro e w2 ⟨rfl,rfl⟩)
           | (go_at_call 32;refine (G2.out _).mono ?_;clear G2;rintro e w3 ⟨rfl,rfl⟩))
          go_ret;exact ⟨rfl,by first | exact hbl.out | exact q_ hbl.out | exact q_ (q_ hbl.out)⟩
      · rw [decide_eq_false hs] at G1
        rw [a9n hzL (by rw [hg];exact hs)] at hR0;subst hR0;obtain ⟨na,nc,rfl,-⟩:=hN;clear hs hd hg hR hzL;generalize t[k]=s at *;generalize L[j].2.length=sl at *;go_wp2_with (go_at_call 32;refine (G1.out _).mono ?_;clear G1;rintro e w2 ⟨rfl,rfl⟩)
        go_ret;exact ⟨rfl,by first | exact hbl.out | exact q_ hbl.out | exact q_ (q_ hbl.out)⟩
    · have hltz:¬ (k:Int)<(n:Int):=by omega
      obtain rfl:k=n:=by omega
      have hR0:=hR.out;rw [← hn.out,List.drop_length,a8r hzL] at hR0;subst hR0;clear hR hzL hjl;go_wp2;go_ret;exact ⟨rfl,hbl.out⟩
 · have G0:=hid (fun u=>hIn.out f (L.length:Int) u)
   rw [decide_eq_false hf] at G0;rw [a0L hf];clear hL ht1 ht2 ht3 hf hatL hatT;generalize L.length=ll at *;generalize t.length=n at *;go_enter Tryz.func14,Tryz.ntmps14
   go_wp2_with (go_at_call 32;refine (G0.out _).mono ?_;clear G0;rintro e w1 ⟨rfl,rfl⟩)
   go_ret;exact ⟨rfl,b0.out⟩
theorem c4Z:AutW:=⟨fun vl vt L f t u hL ht hl hlk htl=>c3o vl vt L f t u hL ht (by omega) (by omega) (fun x hx=>by have:=(hlk x hx).2;omega)⟩
set_option maxRecDepth 20000 in
theorem a9x:Tryz.prog.underlying 41=some (.slice (Tryz.prog.elem 41)):=by kernel_rfl
set_option maxRecDepth 20000 in
theorem b5G {u:World} {v:Value} {t:List Int} (h:Nums u v t) (k:Nat) (hk:k≤t.length):∃ v',(Instr.sliceAt 41 v none (some (.int .i64 (k:Int))) none).run Tryz.prog u=.ok v' u∧Nums u v' (t.take k):=by
 obtain ⟨a,cap,rfl,hc,hn,hat⟩:=h
 have hr:(Instr.sliceAt 41 (.slice a t.length cap) none (some (.int .i64 (k:Int))) none).run Tryz.prog u=.ok (sliced a 0 k cap 1) u:=by
  rw [run_sliceAt_slice _ _ _ _ _ _ a9x,run_slice_h _ _ _ _ _ a9x _ _ (by omega) (by omega)]
  have:(sizeOf (Tryz.prog.elem 41)).run Tryz.prog u=.ok 1 u:=by
   have e:Tryz.prog.elem 41=3:=by kernel_rfl
   rw [e];go_simp
  rw [this];simp [Result.andThen]
 refine ⟨_,hr,?_⟩;have hl:(t.take k).length=k:=by rw [List.length_take];omega
 refine ⟨if cap=0 then a else a.map (·.add (0 * 1)),cap,by unfold sliced;rw [hl];rfl,by omega,fun e=>?_,fun j hj=>?_⟩
 · by_cases hz:cap=0
   · exact hz
   · rw [if_neg hz] at e
     cases a with
     | none=>exact hn rfl
     | some a=>cases e
 · obtain ⟨b,o,e,h1,h2⟩:=hat j (by omega)
   subst e;refine ⟨b,o,?_,h1,?_⟩
   · rw [if_neg (by omega)];simp [Addr.add]
   · rw [List.getElem_take];exact h2
set_option maxRecDepth 20000 in
theorem b5H {u:World} {v:Value} {t:List Int} (h:Nums u v t) (k:Nat) (hk:k≤t.length):∃ v',(Instr.sliceAt 41 v (some (.int .i64 (k:Int))) none none).run Tryz.prog u=.ok v' u∧Nums u v' (t.drop k):=by
 obtain ⟨a,cap,rfl,hc,hn,hat⟩:=h
 have hr:(Instr.sliceAt 41 (.slice a t.length cap) (some (.int .i64 (k:Int))) none none).run Tryz.prog u=.ok (sliced a k t.length cap 1) u:=by
  rw [run_sliceAt_slice _ _ _ _ _ _ a9x,run_slice_l _ _ _ _ _ a9x _ _ (by omega) (by omega)]
  have:(sizeOf (Tryz.prog.elem 41)).run Tryz.prog u=.ok 1 u:=by
   have e:Tryz.prog.elem 41=3:=by kernel_rfl
   rw [e];go_simp
  rw [this];simp [Result.andThen]
 refine ⟨_,hr,?_⟩;have hl:(t.drop k).length=t.length - k:=List.length_drop;refine ⟨if cap=k then a else a.map (·.add (k * 1)),cap - k,by unfold sliced;rw [hl],by omega,fun e=>?_,fun j hj=>?_⟩
 · by_cases hz:cap=k
   · omega
   · rw [if_neg hz] at e
     cases a with
     | none=>have h9:=hn rfl;omega
     | some a=>cases e
 · obtain ⟨b,o,e,h1,h2⟩:=hat (k+j) (by omega)
   subst e;refine ⟨b,o+k,?_,h1,?_⟩
   · rw [if_neg (by omega)];simp [Addr.add]
   · rw [List.getElem_drop,show o+k+j=o+(k+j) by omega];exact h2
set_option maxRecDepth 20000 in
theorem a4V {ops:Array Oper} {o:Oper} {a:Act} {w:World} {K:Act→World→Prop} {Q:Exit→Act→World→Prop} {E:Prop} (hgd:o.guard=none) (x:Operand) (lo hi:Option Operand) (t:TypeId)
 (ho:o.op=.slice t x lo hi none) (v:Value) (lv hv:Option Value) (hs:a.eval x=v) (hl:lo.map a.eval=lv) (hh:hi.map a.eval=hv) {v':Value}
 (hr:(Instr.sliceAt t v lv hv none).run Tryz.prog w=.ok v' w) (h:K (a.put o.dst v') w):if Region.wanted o (yielded ops a.tmps)=true then Oper.wp Tryz.prog o a w K Q else E:=by
 have hw:Region.wanted o (yielded ops a.tmps)=true:=by simp [Region.wanted,hgd]
 rw [if_pos hw];unfold Oper.wp;simp [execOp,ho,hs,hl,hh,hr,Result.andThen]
 exact h
set_option maxRecDepth 100000 in
set_option maxHeartbeats 8000000 in
theorem a6F (rv nv lv pv vt:Value) (g:Gm) (f:Int) (t:List Int) (w:World) (HA:AutOK w) (HV:AutW) (HW:WkOK17 w) (h:GmV w rv nv lv pv g) (ht:Nums w vt t) (htl:t.length≤140737488355328):Calls Tryz.prog 5 #[gmA rv nv lv pv g.start,.int .i64 f,vt] w fun e w'=>e=.returned (.bool true)∧Below w.heap.size w w':=by
 have hKp:=hid (fun u (hu:Below w.heap.size w u)=>h.keep hu);have hTp:=hid (fun u (hu:Below w.heap.size w u)=>ht.keep hu);have hB1:=al' w (.cells #[rv,nv,lv,pv,.int .i64 g.start] 27);have k1:=b_ w (.cells #[rv,nv,lv,pv,.int .i64 g.start] 27);obtain ⟨W,hW⟩:∃ x,w.alloc (.cells #[rv,nv,lv,pv,.int .i64 g.start] 27)=x:=⟨_,rfl⟩;rw [hW] at hB1 k1;have hk1:=hid (fun u (hu:Below W.heap.size W u)=>l_ (g_ k1 hu));have hB:=hid hB1;have GW:=hid (HW.wakes W hB.out);obtain ⟨ta,tc,rfl,-⟩:=id ht;by_cases hf:FitsH g
 case neg =>
  have GL:=hid (fun u (hu:Below w.heap.size w u)=>a1L _ _ _ _ g u (hKp.out u hu) hf);clear h hB1 k1 HA HV HW hf hTp ht;generalize g.start=st at *;generalize t.length=m at *;go_enter Tryz.func5,Tryz.ntmps5
  go_wp2_with (first
   | (go_at_call 8;refine GW.out.mono ?_;clear GW;rintro e w1 ⟨rfl,hc1⟩;have h1:=hid hc1;obtain ⟨x0,x1,x2,x3,x4⟩:=hk1.out w1 h1.out;clear hc1)
   | (go_at_call 9;refine (GL.out _ (a_ hB.out h1.out)).mono ?_;clear GL;rintro e w2 ⟨rfl,hc2⟩;have h2:=hid (a_ h1.out hc2);clear hc2;clear x0 x1 x2 x3 x4))
  go_ret;exact ⟨rfl,a_ hB.out h2.out⟩
 have GL:=hid (fun u (hu:Below w.heap.size w u)=>a0N _ _ _ _ g u (hKp.out u hu) hf);by_cases hlen:t.length≤60
 case neg =>
  have hlz:(60:Int)<(t.length:Int):=by omega
  clear h hB1 k1 HA HV HW hf hTp ht;generalize g.start=st at *;generalize t.length=m at *;go_enter Tryz.func5,Tryz.ntmps5
  go_wp2_with (first
   | (go_at_call 8;refine GW.out.mono ?_;clear GW;rintro e w1 ⟨rfl,hc1⟩;have h1:=hid hc1;obtain ⟨x0,x1,x2,x3,x4⟩:=hk1.out w1 h1.out;clear hc1)
   | (go_at_call 9;refine (GL.out _ (a_ hB.out h1.out)).mono ?_;clear GL;rintro e w2 ⟨rfl,hc2⟩;have h2:=hid (a_ h1.out hc2);clear hc2;clear x0 x1 x2 x3 x4))
  go_ret;exact ⟨rfl,a_ hB.out h2.out⟩
 have hlz:¬ (60:Int)<(t.length:Int):=by omega
 have GA:=hid (fun u (hu:Below w.heap.size w u)=>HA.build g rv nv lv pv u hu hf (hKp.out u hu));have q1:∀ x:St,x∈lB g→x.1.length≤1000∧x.2.length≤1000:=fun x hx=>by have:=a5k g x hx;omega
 have n1:=a5j g;have GV:=hid (fun u vl vs f s (hl:Sts u vl (lB g)) (hs:Nums u vs s) (hsl:s.length≤60)=>HV.walk vl vs (lB g) f s u hl hs n1 q1 hsl);have GR:=hid (fun u vl (hu:Below w.heap.size w u) (hl:Sts u vl (lB g))=>b2J vl _ (lB g) f t u hl (hTp.out u hu) (by omega) (by omega) (fun x hx=>by have:=q1 x hx;omega));have hap:=hid (b1W (lB g) (t.take (t.length / 2)) (t.drop (t.length / 2)) f);rw [List.take_append_drop] at hap;have hT1:(t.take (t.length / 2)).length≤60:=by rw [List.length_take];omega
 have hT2:(t.drop (t.length / 2)).length≤60:=by rw [List.length_drop];omega
 have hkl:t.length / 2≤t.length:=by omega
 have hkq:((t.length:Int).tdiv 2)=((t.length / 2:Nat):Int):=by rw [Int.tdiv_eq_ediv_of_nonneg (by omega)];omega
 clear h hB1 k1 HA HV HW hf ht n1 q1;generalize eB g=ez at *;obtain ⟨L,hL⟩:∃ x,lB g=x:=⟨_,rfl⟩;rw [hL] at GA GV GR hap;clear hL;obtain ⟨k,hk⟩:∃ x,t.length / 2=x:=⟨_,rfl⟩;rw [hk] at hap hT1 hT2 hkl hkq;clear hk;obtain ⟨T1,hT1e⟩:∃ x,t.take k=x:=⟨_,rfl⟩;obtain ⟨T2,hT2e⟩:∃ x,t.drop k=x:=⟨_,rfl⟩;rw [hT1e,hT2e] at hap;rw [hT1e] at hT1;rw [hT2e] at hT2;obtain ⟨z1,hz1⟩:∃ x,wlk L f T1=x:=⟨_,rfl⟩;obtain ⟨z2,hz2⟩:∃ x,wlk L f t=x:=⟨_,rfl⟩;have hzz:Hid (wlk L z1 T2=z2):=hid (by rw [← hz1,← hz2];exact hap.out.symm);have GX:=hid (fun u vl vs (hl:Sts u vl L) (hs:Nums u vs T1)=>GV.out u vl vs f T1 hl hs hT1);have GY:=hid (fun u vl vs (hl:Sts u vl L) (hs:Nums u vs T2)=>GV.out u vl vs z1 T2 hl hs hT2);have GZ:=hid (fun u vl (hu:Below w.heap.size w u) (hl:Sts u vl L)=>GV.out u vl _ f t hl (hTp.out u hu) hlen);rw [hz1] at GX;rw [hzz.out] at GY;rw [hz2] at GZ GR;clear GV hap hz1 hz2 hzz hT1 hT2;obtain ⟨n,hn⟩:∃ n,Hid (L.length=n):=⟨_,hid rfl⟩;generalize g.start=st at *;obtain ⟨m,hm⟩:∃ n,Hid (t.length=n):=⟨_,hid rfl⟩;rw [hm.out] at hlz hlen htl GZ GR hkq ⊢;go_enter Tryz.func5,Tryz.ntmps5
 go_wp2_with (first
  | (go_at_call 8;refine GW.out.mono ?_;clear GW;rintro e w1 ⟨rfl,hc1⟩;have h1:=hid hc1;obtain ⟨x0,x1,x2,x3,x4⟩:=hk1.out w1 h1.out;clear hc1)
  | (go_at_call 9;refine (GL.out _ (a_ hB.out h1.out)).mono ?_;clear GL;rintro e w2 ⟨rfl,hc2⟩;have h2:=hid (a_ h1.out hc2);clear hc2;clear x0 x1 x2 x3 x4;obtain ⟨x0,x1,x2,x3,x4⟩:=hk1.out w2 h2.out)
  | (go_at_call 10;refine (GA.out _ (a_ hB.out h2.out)).mono ?_;clear GA;rintro e w3 ⟨va,rfl,hS,hc3⟩;have h3:=hid (a_ h2.out hc3);have hS:=hid (hS w3 (Below.refl _ _)).1;clear hc3;clear x0 x1 x2 x3 x4;obtain ⟨sa,sc,hsh⟩:=hS.out.shape;rw [hn.out] at hsh;subst hsh)
  | (go_at_call 14;refine (GZ.out _ _ (a_ hB.out h3.out) hS.out).mono ?_;rintro e w4 ⟨rfl,hc4⟩;have h4:=hid (a_ h3.out hc4);have hS4:=hid (hS.out.keep hc4);clear hc4)
  | (go_at_call 15;refine (GR.out _ _ (a_ hB.out h4.out) hS4.out).mono ?_;clear GR;rintro e w5 ⟨rfl,hc5⟩;have h5:=hid (a_ h4.out hc5);have hS5:=hid (hS4.out.keep hc5);clear hc5))
 have hk60:k≤60:=by have:=hm.out;omega
 have hkw:wrap64 ((k:Nat):Int)=(k:Int):=by unfold wrap64;omega
 rw [hkw]
 have hT:=hid (fun u (hu:Below w5.heap.size w5 u)=>by
  have h9:=hTp.out u (a_ hB.out (a_ h5.out hu));rw [hm.out] at h9;exact h9)
 have GX:=hid (fun u vs (hu:Below w5.heap.size w5 u) (hs:Nums u vs T1)=>GX.out u _ vs (hS5.out.keep hu) hs);have GY:=hid (fun u vs (hu:Below w5.heap.size w5 u) (hs:Nums u vs T2)=>GY.out u _ vs (hS5.out.keep hu) hs);have GZ:=hid (fun u (hu:Below w5.heap.size w5 u)=>GZ.out u _ (a_ hB.out (a_ h5.out hu)) (hS5.out.keep hu));clear hS hS4;refine a1m [clV (.slice sa n sc),clV (.slice sa n sc),clV (.int .i64 f),clV (.slice ta m tc),clV (.int .i64 (k:Int)),c3j T1,clV (.int .i64 z1),clV (.slice ta m tc),clV (.int .i64 (k:Int)),c3j T2,clV (.int .i64 z2),clV (.slice sa n sc),clV (.int .i64 f),clV (.slice ta m tc),clV (.int .i64 z2),clV (.bool true),clV (.bool true)] (fun _=>none) (by kernel_rfl) (by kernel_rfl) (by rfl) (by intro xs;simp only [a2m,Nat.reduceAdd,Act.put,List.setIfInBounds_toArray,List.set_cons_zero,List.set_cons_succ];rfl) ?_ ?_
 · refine h_ ?_ (h_ ?_ (h_ ?_ (h_ ?_ (h_ ?_ (h_ ?_ (h_ ?_ (h_ ?_ (h_ ?_ (h_ ?_ (h_ ?_ (h_ ?_ (h_ ?_ (h_ ?_ (h_ ?_ (h_ ?_ (h_ ?_ (a2l)))))))))))))))))
   · intro xs τ u fr hA hI hd K hK
     try dsimp only at hA
     subst hA;have hK:=hK _ τ u hI (.inl (StepT.refl _ _ _)) (A_ _ _ _ _);go_simp
     exact hK
   · intro xs τ u fr hA hI hd K hK
     try dsimp only at hA
     subst hA;have hK:=hK _ τ u hI (.inl (StepT.refl _ _ _)) (A_ _ _ _ _);go_simp
     exact hK
   · intro xs τ u fr hA hI hd K hK
     try dsimp only at hA
     subst hA;have hK:=hK _ τ u hI (.inl (StepT.refl _ _ _)) (A_ _ _ _ _);go_simp
     exact hK
   · intro xs τ u fr hA hI hd K hK
     try dsimp only at hA
     subst hA;have hK:=hK _ τ u hI (.inl (StepT.refl _ _ _)) (A_ _ _ _ _);go_simp
     exact hK
   · intro xs τ u fr hA hI hd K hK
     try dsimp only at hA
     subst hA;have hK:=hK _ τ u hI (.inl (StepT.refl _ _ _)) (A_ _ _ _ _);go_simp
     exact hK
   · intro xs τ u fr hA hI hd K hK
     try dsimp only at hA
     generalize hx3:xs 3=z3 at hA;have e3:=V_ (hd 3 rfl);rw [hx3] at e3;subst e3;generalize hx4:xs 4=z4 at hA;have e4:=V_ (hd 4 rfl);rw [hx4] at e4;subst e4;subst hA;obtain ⟨v',hrun,hN⟩:=b5G (hT.out u (hI.low)) k hkl;refine a4V (by rfl) (.tmp 39) (none) (some (.tmp 40)) 41 (by rfl) _ _ _ (by rfl) (by rfl) (by rfl) hrun ?_;rw [hT1e] at hN;exact hK _ τ u hI (.inl (StepT.refl _ _ _)) (b3T hN)
   · intro xs τ u fr hA hI hd K hK
     try dsimp only at hA
     generalize hx1:xs 1=z1 at hA;have e1:=V_ (hd 1 rfl);rw [hx1] at e1;subst e1;generalize hx2:xs 2=z2 at hA;have e2:=V_ (hd 2 rfl);rw [hx2] at e2;subst e2;generalize hx5:xs 5=z5 at hA;have d5:=hd 5 rfl;rw [hx5] at d5;subst hA;refine a0Q (by rfl) 14 #[.slice sa n sc,.int .i64 f,z5] (by go_simp) (GX.out u _ (hI.low) (b3r d5)) ?_;rintro e u' ⟨rfl,hc⟩;exact ⟨_,rfl,hK _ τ u' (hI.call hc).1 (.inl (hI.call hc).2) (A_ _ _ _ _)⟩
   · intro xs τ u fr hA hI hd K hK
     try dsimp only at hA
     subst hA;have hK:=hK _ τ u hI (.inl (StepT.refl _ _ _)) (A_ _ _ _ _);go_simp
     exact hK
   · intro xs τ u fr hA hI hd K hK
     try dsimp only at hA
     subst hA;have hK:=hK _ τ u hI (.inl (StepT.refl _ _ _)) (A_ _ _ _ _);go_simp
     exact hK
   · intro xs τ u fr hA hI hd K hK
     try dsimp only at hA
     generalize hx7:xs 7=z7 at hA;have e7:=V_ (hd 7 rfl);rw [hx7] at e7;subst e7;generalize hx8:xs 8=z8 at hA;have e8:=V_ (hd 8 rfl);rw [hx8] at e8;subst e8;subst hA;obtain ⟨v',hrun,hN⟩:=b5H (hT.out u (hI.low)) k hkl;refine a4V (by rfl) (.tmp 43) (some (.tmp 44)) (none) 41 (by rfl) _ _ _ (by rfl) (by rfl) (by rfl) hrun ?_;rw [hT2e] at hN;exact hK _ τ u hI (.inl (StepT.refl _ _ _)) (b3T hN)
   · intro xs τ u fr hA hI hd K hK
     try dsimp only at hA
     generalize hx0:xs 0=z0 at hA;have e0:=V_ (hd 0 rfl);rw [hx0] at e0;subst e0;generalize hx6:xs 6=z6 at hA;have e6:=V_ (hd 6 rfl);rw [hx6] at e6;subst e6;generalize hx9:xs 9=z9 at hA;have d9:=hd 9 rfl;rw [hx9] at d9;subst hA;refine a0Q (by rfl) 14 #[.slice sa n sc,.int .i64 z1,z9] (by go_simp) (GY.out u _ (hI.low) (b3r d9)) ?_;rintro e u' ⟨rfl,hc⟩;exact ⟨_,rfl,hK _ τ u' (hI.call hc).1 (.inl (hI.call hc).2) (A_ _ _ _ _)⟩
   · intro xs τ u fr hA hI hd K hK
     try dsimp only at hA
     subst hA;have hK:=hK _ τ u hI (.inl (StepT.refl _ _ _)) (A_ _ _ _ _);go_simp
     exact hK
   · intro xs τ u fr hA hI hd K hK
     try dsimp only at hA
     subst hA;have hK:=hK _ τ u hI (.inl (StepT.refl _ _ _)) (A_ _ _ _ _);go_simp
     exact hK
   · intro xs τ u fr hA hI hd K hK
     try dsimp only at hA
     subst hA;have hK:=hK _ τ u hI (.inl (StepT.refl _ _ _)) (A_ _ _ _ _);go_simp
     exact hK
   · intro xs τ u fr hA hI hd K hK
     try dsimp only at hA
     generalize hx11:xs 11=z11 at hA;have e11:=V_ (hd 11 rfl);rw [hx11] at e11;subst e11;generalize hx12:xs 12=z12 at hA;have e12:=V_ (hd 12 rfl);rw [hx12] at e12;subst e12;generalize hx13:xs 13=z13 at hA;have e13:=V_ (hd 13 rfl);rw [hx13] at e13;subst e13;subst hA;refine a0Q (by rfl) 14 #[.slice sa n sc,.int .i64 f,.slice ta m tc] (by go_simp) (GZ.out u (hI.low)) ?_;rintro e u' ⟨rfl,hc⟩;exact ⟨_,rfl,hK _ τ u' (hI.call hc).1 (.inl (hI.call hc).2) (A_ _ _ _ _)⟩
   · intro xs τ u fr hA hI hd K hK
     try dsimp only at hA
     generalize hx10:xs 10=z10 at hA;have e10:=V_ (hd 10 rfl);rw [hx10] at e10;subst e10;generalize hx14:xs 14=z14 at hA;have e14:=V_ (hd 14 rfl);rw [hx14] at e14;subst e14;subst hA;have hK:=hK _ τ u hI (.inl (StepT.refl _ _ _)) (A_ _ _ _ _);go_simp
     exact hK
   · intro xs τ u fr hA hI hd K hK
     try dsimp only at hA
     subst hA;have hK:=hK _ τ u hI (.inl (StepT.refl _ _ _)) (hd 15 rfl);go_simp
     exact hK
 · intro xs τ u fr hA hI hx
   have e16:=V_ (hx 16 rfl);have h6:=hid (a_ h5.out hI.low)
   try dsimp only at hA
   generalize xs 16=z16 at *;subst e16 hA;clear hx hI
   try dsimp only
   go_wp2;go_ret;exact ⟨rfl,a_ hB.out h6.out⟩
end Go.Proofs.YtjgedijclkoemaaGreatDoor
