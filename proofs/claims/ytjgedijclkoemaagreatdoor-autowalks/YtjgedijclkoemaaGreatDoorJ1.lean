/- What the five laws of layer 17 share, part 1: no statement of its own. -/
import Derived.Test.YtjgedijclkoemaaGreatDoorProg
import Derived.Test.YtjgedijclkoemaaGreatDoorRows
import Derived.Carry
import Derived.ChangeKeysEq
import Derived.Laws.StructEq
import Derived.Lib.ItoaLen
import Derived.Lib.ItoaMem
import Derived.Lib.SmallJoins
import Derived.Lib.TrailingZeros
import Derived.OpenShut
import Derived.ProofKit
import Derived.Shelf.Bits.Mul64
import Derived.Shelf.LaysM
import Derived.Shelf.Slices.Clone
import Derived.Shelf.SlicesE.Clone
import Derived.Shelf.SlicesG.Cmp
import Derived.Shelf.Strconv.AppendInt10
import Derived.Shelf.Strconv.AppendIntPublic10
import Derived.Shelf.Strconv.AppendUint10
import Derived.Shelf.Strconv.Clone
import Derived.Shelf.Strconv.Itoa1
import Derived.Shelf.Strconv.Itoa2
import Derived.Shelf.Strconv.Itoa3
import Derived.Shelf.Strings.Builder1
import Derived.Shelf.Strings.Builder2
import Derived.Shelf.Strings.BuilderF
import Derived.Shelf.Strings.BuilderK
import Derived.Shelf.Strings.OnBuilder
import Derived.WalkKit
import Derived.WalkSpells
namespace Go.Proofs.YtjgedijclkoemaaGreatDoor
open Go.Lib
theorem a0v:∀ (u:Nat),∀ c∈decDigits u,48≤c.toNat∧c.toNat≤57
 | u,c,h=>by
  rw [decDigits] at h;split at h
  · rename_i hu
    rw [List.mem_singleton] at h;subst h;rw [UInt8.toNat_ofNat'];omega
  · rename_i hu
    rcases List.mem_append.1 h with h | h
    · exact a0v (u / 10) c h
    · rw [List.mem_singleton] at h
      subst h;rw [UInt8.toNat_ofNat'];omega
termination_by u=>u
decreasing_by omega
theorem a8Z:∀ (u v:Nat),decDigits u=decDigits v→u=v
 | u,v,h=>by
  have e1:decDigits u=if _:u<10 then [UInt8.ofNat (48+u)] else decDigits (u / 10)++[UInt8.ofNat (48+u % 10)]:=by rw [decDigits]
  have e2:decDigits v=if _:v<10 then [UInt8.ofNat (48+v)] else decDigits (v / 10)++[UInt8.ofNat (48+v % 10)]:=by rw [decDigits]
  have pos:∀ n,decDigits n≠[]:=fun n e=>by
   have:=decDigits_length n
   rw [e] at this
   have:=nDigits_pos n
   simp at *
   omega
  have byte:∀ a b:Nat,a<10→b<10→UInt8.ofNat (48+a)=UInt8.ofNat (48+b)→a=b:=fun a b ha hb e=>by
   have:=congrArg UInt8.toNat e
   rw [UInt8.toNat_ofNat',UInt8.toNat_ofNat'] at this;omega
  rw [e1,e2] at h;by_cases hu:u<10
  · rw [dif_pos hu] at h
    by_cases hv:v<10
    · rw [dif_pos hv] at h
      exact byte u v hu hv (List.cons.inj h).1
    · rw [dif_neg hv] at h
      have h':[]++[UInt8.ofNat (48+u)]=decDigits (v / 10)++[UInt8.ofNat (48+v % 10)]:=h;exact absurd (List.append_inj_left' h' rfl).symm (pos _)
  · rw [dif_neg hu] at h
    by_cases hv:v<10
    · rw [dif_pos hv] at h
      have h':decDigits (u / 10)++[UInt8.ofNat (48+u % 10)]=[]++[UInt8.ofNat (48+v)]:=h;exact absurd (List.append_inj_left' h' rfl) (pos _)
    · rw [dif_neg hv] at h
      have h1:=a8Z (u / 10) (v / 10) (List.append_inj_left' h rfl);have h2:=byte (u % 10) (v % 10) (by omega) (by omega) (List.cons.inj (List.append_inj_right' h rfl)).1;omega
termination_by u=>u
decreasing_by omega
theorem b0A (u:Nat):∀ t,decDigits u≠45 :: t:=fun t e=>by
 have:=a0v u 45 (by rw [e];exact List.mem_cons_self)
 simp at this
theorem a6u {m n:Int} (h:itoa m=itoa n):m=n:=by
 unfold itoa at h;by_cases hm:m<0
 · rw [if_pos hm] at h
   by_cases hn:n<0
   · rw [if_pos hn] at h
     have:=a8Z _ _ (List.cons.inj h).2
     omega
   · rw [if_neg hn] at h
     exact absurd h.symm (b0A _ _)
 · rw [if_neg hm] at h
   by_cases hn:n<0
   · rw [if_pos hn] at h
     exact absurd h (b0A _ _)
   · rw [if_neg hn] at h
     have:=a8Z _ _ h
     omega
theorem a1J (n:Int):∀ c∈itoa n,c≠32:=fun c h e=>by
 subst e;unfold itoa at h;split at h
 · rcases List.mem_cons.1 h with h | h
   · exact absurd h (by decide)
   · have:=a0v _ _ h;simp at this
 · have:=a0v _ _ h;simp at this
end Go.Proofs.YtjgedijclkoemaaGreatDoor
namespace Go.Proofs
open Go.Shelf
def Tryz.laysM316_ren:Go.Shelf.Ren:=⟨fun | 316=>123 | n=>n,fun | 9=>9 | 3=>3 | 4=>4 | 37=>137 | 0=>0 | 127=>179 | 5=>5 | n=>n,fun | n=>n⟩
theorem Tryz.laysM316:Go.Proofs.LaysM.n316 Tryz.prog Tryz.laysM316_ren:={
 mixed:=by kernel_rfl
 f316:=Tryz.func123.trans (congrArg some (by kernel_rfl))
 t0:=Tryz.underlying0
 a0:=Tryz.isAgg0
 z0:=Tryz.sizeOf0
 v0:=Tryz.zeroValue0
 t3:=Tryz.underlying3
 a3:=Tryz.isAgg3
 z3:=Tryz.sizeOf3
 v3:=Tryz.zeroValue3
 t4:=Tryz.underlying4
 a4:=Tryz.isAgg4
 z4:=Tryz.sizeOf4
 v4:=Tryz.zeroValue4
 t9:=Tryz.underlying9
 a9:=Tryz.isAgg9
 z9:=Tryz.sizeOf9
 v9:=Tryz.zeroValue9
 t37:=Tryz.underlying137
 a37:=Tryz.isAgg137
 z37:=Tryz.sizeOf137
 v37:=Tryz.zeroValue137
 t127:=Tryz.underlying179
 a127:=Tryz.isAgg179
 z127:=Tryz.sizeOf179
 v127:=Tryz.zeroValue179
 t5:=Tryz.underlying5
 a5:=Tryz.isAgg5
 z5:=Tryz.sizeOf5
 v5:=Tryz.zeroValue5
 i0:=by kernel_rfl
 i3:=by kernel_rfl
 i4:=by kernel_rfl
 i5:=by kernel_rfl
 i9:=by kernel_rfl
 i37:=by kernel_rfl
 i127:=by kernel_rfl }
open Go.RowKit in
theorem Tryz.stringslite_Clone (s:ByteArray) (w:World) (hlim:s.size≤281474976710656) :
 Calls Tryz.prog 123 #[.string s] w fun e w'=>e=.returned (.string s)∧Below w.heap.size w w':=Any.stringslite_Clone Tryz.laysM316 s w hlim
def Tryz.laysSlC25_f200_ren:Go.Shelf.Ren:=⟨fun | 5=>200 | 7=>218 | n=>n,fun | 22=>3 | 3=>3 | 4=>4 | n=>n,fun | n=>n⟩
theorem Tryz.laysSlC25_f200:Go.Proofs.SlLaysC2.n5 Tryz.prog Tryz.laysSlC25_f200_ren:={
 mixed:=by kernel_rfl
 f5:=⟨Tryz.f200.name,by decide,Tryz.func200.trans (congrArg some (by kernel_rfl))⟩
 f7:=⟨Tryz.f218.name,by decide,Tryz.func218.trans (congrArg some (by kernel_rfl))⟩
 t3:=Tryz.underlying3
 a3:=Tryz.isAgg3
 z3:=Tryz.sizeOf3
 v3:=Tryz.zeroValue3
 t4:=Tryz.underlying4
 a4:=Tryz.isAgg4
 z4:=Tryz.sizeOf4
 v4:=Tryz.zeroValue4
 t22:=Tryz.underlying3
 a22:=Tryz.isAgg3
 z22:=Tryz.sizeOf3
 v22:=Tryz.zeroValue3 }
open Go.Lib in
theorem Tryz.cmp_Compare_int (x y:Int) (w:World) :
 Calls Tryz.prog 200 #[.int .i64 x,.int .i64 y] w fun e w'=>e=.returned (.int .i64 (Lib.compareInt x y))∧w'=w:=AnyG.cmp_Compare_int Tryz.laysSlC25_f200 x y w
end Go.Proofs
namespace Go.Proofs.YtjgedijclkoemaaGreatDoor
structure W4 where
 a:Nat
 b:Nat
 c:Nat
 d:Nat
deriving DecidableEq
def W4.w (S:W4):Nat→Nat
 | 0=>S.a
 | 1=>S.b
 | 2=>S.c
 | _=>S.d
structure Fit4 (S:W4):Prop where
 a:S.a<18446744073709551616
 b:S.b<18446744073709551616
 c:S.c<18446744073709551616
 d:S.d<18446744073709551616
theorem Fit4.w {S:W4} (h:Fit4 S):∀ i,S.w i<18446744073709551616
 | 0=>h.a
 | 1=>h.b
 | 2=>h.c
 | _+3=>h.d
def a2I (S:W4) (x:Nat):Bool:=(S.w (x / 64)).testBit (x % 64)
def W4.set (S:W4) (i v:Nat):W4:=match i with
 | 0=>⟨v,S.b,S.c,S.d⟩
 | 1=>⟨S.a,v,S.c,S.d⟩
 | 2=>⟨S.a,S.b,v,S.d⟩
 | _=>⟨S.a,S.b,S.c,v⟩
theorem W4.set_same (S:W4) (i v:Nat):(S.set i v).w i=v:=by
 match i with
 | 0=>rfl
 | 1=>rfl
 | 2=>rfl
 | n+3=>rfl
theorem W4.set_other (S:W4) (i j v:Nat) (hi:i<4) (hj:j<4) (h:j≠i):(S.set i v).w j=S.w j:=by
 have hi':i=0∨i=1∨i=2∨i=3:=by omega
 have hj':j=0∨j=1∨j=2∨j=3:=by omega
 rcases hi' with rfl | rfl | rfl | rfl <;> rcases hj' with rfl | rfl | rfl | rfl <;> first | rfl | exact absurd rfl h
theorem Fit4.set {S:W4} (h:Fit4 S) (i v:Nat) (hv:v<18446744073709551616):Fit4 (S.set i v):=by
 match i with
 | 0=>exact ⟨hv,h.b,h.c,h.d⟩
 | 1=>exact ⟨h.a,hv,h.c,h.d⟩
 | 2=>exact ⟨h.a,h.b,hv,h.d⟩
 | n+3=>exact ⟨h.a,h.b,h.c,hv⟩
theorem a9m {m n:Nat} (hm:m<18446744073709551616) (hn:n<18446744073709551616) (h:∀ j,j<64→m.testBit j=n.testBit j):m=n:=by
 apply Nat.eq_of_testBit_eq
 intro j;by_cases hj:j<64
 · exact h j hj
 · have h64:(2:Nat) ^ 64≤2 ^ j:=Nat.pow_le_pow_right (by omega) (by omega)
   rw [Nat.testBit_lt_two_pow (Nat.lt_of_lt_of_le (by omega) h64),Nat.testBit_lt_two_pow (Nat.lt_of_lt_of_le (by omega) h64)]
theorem a8A {S T:W4} (hS:Fit4 S) (hT:Fit4 T) (h:∀ x,x<256→a2I S x=a2I T x):S=T:=by
 have key:∀ i,i<4→S.w i=T.w i:=fun i hi=>a9m (hS.w i) (hT.w i) fun j hj=>by
  have:=h (64 * i+j) (by omega)
  unfold a2I at this
  rwa [show (64 * i+j) / 64=i by omega,show (64 * i+j) % 64=j by omega] at this
 have h0:S.a=T.a:=key 0 (by omega);have h1:S.b=T.b:=key 1 (by omega);have h2:S.c=T.c:=key 2 (by omega);have h3:S.d=T.d:=key 3 (by omega);cases S;cases T
 simp only at h0 h1 h2 h3
 subst h0 h1 h2 h3;rfl
theorem b4V (n k:Nat) (h:n.testBit k=false):∃ q r,n=2 ^ (k+1) * q+r∧r<2 ^ k:=by
 refine ⟨n / 2 ^ (k+1),n % 2 ^ (k+1),(Nat.div_add_mod _ _).symm,?_⟩;have h1:n % 2 ^ (k+1)<2 ^ (k+1):=Nat.mod_lt _ (Nat.two_pow_pos _);rw [Nat.testBit_eq_decide_div_mod_eq] at h;have h2:¬ n / 2 ^ k % 2=1:=of_decide_eq_false h
 have h3:n % 2 ^ (k+1)=2 ^ k * (n / 2 ^ k % 2)+n % 2 ^ k:=by
  rw [Nat.pow_succ,Nat.mod_mul];omega
 have h4:n % 2 ^ k<2 ^ k:=Nat.mod_lt _ (Nat.two_pow_pos _);have h5:n / 2 ^ k % 2=0:=by omega
 rw [h5] at h3;omega
theorem b4W (n k:Nat) (h:n.testBit k=false) (j:Nat):(n+2 ^ k).testBit j=(n.testBit j || decide (j=k)):=by
 obtain ⟨q,r,rfl,hr⟩:=b4V n k h;have hp:(2:Nat) ^ (k+1)=2 ^ k+2 ^ k:=by rw [Nat.pow_succ];omega
 rw [Nat.add_assoc,Nat.testBit_two_pow_mul_add _ (by omega),Nat.testBit_two_pow_mul_add _ (by omega)];by_cases hj:j<k+1
 · rw [if_pos hj,if_pos hj,Nat.add_comm r]
   by_cases e:j=k
   · subst e
     rw [Nat.testBit_two_pow_add_eq,Nat.testBit_lt_two_pow hr];simp
   · rw [Nat.testBit_two_pow_add_gt (by omega)]
     simp [e]
 · rw [if_neg hj,if_neg hj]
   have:¬ j=k:=by omega
   simp [this]
theorem b1L (n k:Nat) (h:n.testBit k=false) (hn:n<18446744073709551616) (hk:k<64):n+2 ^ k<18446744073709551616:=by
 have:n+2 ^ k<2 ^ 64:=by
  apply Nat.lt_pow_two_of_testBit
  intro i hi;rw [b4W n k h,Nat.testBit_lt_two_pow (Nat.lt_of_lt_of_le hn (show 18446744073709551616≤2 ^ i from Nat.pow_le_pow_right (n:=2) (by omega) hi))]
  have:¬ i=k:=by omega
  simp [this]
 omega
def b5k (S:W4) (x:Nat):W4:=if a2I S x then S else S.set (x / 64) (S.w (x / 64)+2 ^ (x % 64))
theorem a3H {S:W4} (h:Fit4 S) (x:Nat):Fit4 (b5k S x):=by
 unfold b5k;cases hx:a2I S x with
 | true=>simpa using h
 | false =>
  simp only [Bool.false_eq_true,if_false];exact h.set _ _ (b1L _ _ hx (h.w _) (by omega))
theorem a1F (S:W4) (x y:Nat) (hx:x<256) (hy:y<256):a2I (b5k S x) y=(a2I S y || decide (y=x)):=by
 unfold b5k;cases h:a2I S x with
 | true =>
  simp only [if_true];by_cases e:y=x
  · subst e;rw [h];rfl
  · simp [e]
 | false =>
  simp only [Bool.false_eq_true,if_false];by_cases e:y / 64=x / 64
  · unfold a2I
    rw [e,W4.set_same];have h':(S.w (x / 64)).testBit (x % 64)=false:=h;rw [b4W _ _ h'];congr 1
    rw [decide_eq_decide]
    constructor
    · intro hm;omega
    · intro hm;rw [hm]
  · unfold a2I
    rw [W4.set_other _ _ _ _ (by omega) (by omega) e]
    have:¬ y=x:=fun h=>e (by rw [h])
    simp [this]
def n_:W4:=⟨0,0,0,0⟩
theorem a0j:Fit4 n_:=⟨by decide,by decide,by decide,by decide⟩
theorem a0t (x:Nat):a2I n_ x=false:=by
 have:n_.w (x / 64)=0:=by
  unfold W4.w n_;split <;> rfl
 unfold a2I;rw [this,Nat.zero_testBit]
def mkN (p:Nat→Bool):Nat→W4
 | 0=>n_
 | k+1=>if p k then b5k (mkN p k) k else mkN p k
def mkB (p:Nat→Bool):W4:=mkN p 256
theorem a8N (p:Nat→Bool):∀ k,Fit4 (mkN p k)
 | 0=>a0j
 | k+1=>by
  unfold mkN;cases p k with
  | true=>simpa using a3H (a8N p k) k
  | false=>simpa using a8N p k
theorem b3B (p:Nat→Bool):∀ k,k≤256→∀ x,x<256→a2I (mkN p k) x=(decide (x<k) && p x)
 | 0,_,x,_=>by rw [mkN,a0t];simp
 | k+1,hk,x,hx=>by
  have ih:=b3B p k (by omega) x hx;unfold mkN;by_cases e:x=k
  · subst e
    cases hp:p x with
    | true=>simp [a1F _ x x hx hx]
    | false=>simp [ih]
  · have h1:decide (x<k+1)=decide (x<k):=by rw [decide_eq_decide];omega
    rw [h1,← ih];cases p k with
    | true=>simp [a1F _ k x (by omega) hx,e]
    | false=>simp
theorem a1b (p:Nat→Bool):Fit4 (mkB p):=a8N p 256
theorem a8O (p:Nat→Bool) (x:Nat) (hx:x<256):a2I (mkB p) x=p x:=by
 unfold mkB;rw [b3B p 256 (Nat.le_refl _) x hx];simp [hx]
theorem a7E {S:W4} (hS:Fit4 S) {p:Nat→Bool} (h:∀ x,x<256→a2I S x=p x):S=mkB p:=
 a8A hS (a1b p) fun x hx=>by rw [h x hx,a8O p x hx]
def orB (S T:W4):W4:=mkB fun x=>a2I S x || a2I T x
def a4I (S:W4):W4:=mkB fun x=>!a2I S x
def H_ (f t:Nat):W4:=mkB fun x=>decide (f≤x) && decide (x≤t)
attribute [irreducible] mkN mkB
structure Cel where
 op:Int
 s:W4
deriving DecidableEq
inductive Rx where
 | set (S:W4)
 | eps
 | cat (a b:Rx)
 | or (a b:Rx)
 | star (a:Rx)
 | plus (a:Rx)
 | opt (a:Rx)
def post:Rx→List Cel
 | .set S=>[⟨1,S⟩]
 | .eps=>[⟨2,n_⟩]
 | .cat a b=>post a++(post b++[⟨3,n_⟩])
 | .or a b=>post a++(post b++[⟨4,n_⟩])
 | .star a=>post a++[⟨5,n_⟩]
 | .plus a=>post a++[⟨6,n_⟩]
 | .opt a=>post a++[⟨7,n_⟩]
def Rx.ok:Rx→Prop
 | .set S=>S≠n_
 | .eps=>True
 | .cat a b=>a.ok∧b.ok
 | .or a b=>a.ok∧b.ok
 | .star a=>a.ok
 | .plus a=>a.ok
 | .opt a=>a.ok
def P_ (op:Int):Int:=if op=1∨op=2 then 0 else if op=3∨op=4 then 2 else if 5≤op∧op≤7 then 1 else -1
def b4Y (d:Int) (c:Cel):Bool:=decide (P_ c.op<0) || decide (d<P_ c.op) || (decide (c.s=n_) == decide (c.op=1))
def C_ (l:List Cel):Nat→Option Int
 | 0=>some 0
 | k+1=>match C_ l k,l[k]? with
  | some d,some c=>if b4Y d c then none else some (d - P_ c.op+1)
  | _,_=>none
def v_ (l:List Cel):Bool:=decide (1≤l.length) && decide (l.length≤60) && decide (C_ l l.length=some 1)
theorem b6a:∀ t,0<(post t).length
 | .set _=>by simp [post]
 | .eps=>by simp [post]
 | .cat a b=>by simp [post];omega
 | .or a b=>by simp [post];omega
 | .star a=>by simp [post]
 | .plus a=>by simp [post]
 | .opt a=>by simp [post]
theorem a0g:∀ (t:Rx) (l pre suf:List Cel) (d:Int),t.ok→l=pre++(post t++suf)→C_ l pre.length=some d→0≤d→C_ l (pre.length+(post t).length)=some (d+1)
 | .set S,l,pre,suf,d,ho,h,hd,h0=>by
  have hc:l[pre.length]?=some ⟨1,S⟩:=by rw [h];simp [post]
  show C_ l (pre.length+1)=_
  rw [C_,hd,hc];have hS:S≠n_:=ho;simp [b4Y,P_,hS]
  omega
 | .eps,l,pre,suf,d,ho,h,hd,h0=>by
  have hc:l[pre.length]?=some ⟨2,n_⟩:=by rw [h];simp [post]
  show C_ l (pre.length+1)=_
  rw [C_,hd,hc];simp [b4Y,P_]
  omega
 | .cat a b,l,pre,suf,d,ho,h,hd,h0=>by
  have h1:=a0g a l pre (post b++(⟨3,n_⟩ :: suf)) d ho.1 (by rw [h];simp [post]) hd h0;have h2:=a0g b l (pre++post a) (⟨3,n_⟩ :: suf) (d+1) ho.2 (by rw [h];simp [post]) (by rw [List.length_append];exact h1) (by omega)
  have hc:l[(pre++post a).length+(post b).length]?=some ⟨3,n_⟩:=by
   rw [h,show pre++(post (.cat a b)++suf)=(pre++post a++post b)++(⟨3,n_⟩ :: suf) by simp [post],← List.length_append];simp
  show C_ l (pre.length+(post a++(post b++[(⟨3,n_⟩:Cel)])).length)=_
  rw [show pre.length+(post a++(post b++[(⟨3,n_⟩:Cel)])).length=(pre++post a).length+(post b).length+1 by simp;omega,C_,h2,hc]
  have:¬ d+1+1<2:=by omega
  simp [b4Y,P_,this]
  omega
 | .or a b,l,pre,suf,d,ho,h,hd,h0=>by
  have h1:=a0g a l pre (post b++(⟨4,n_⟩ :: suf)) d ho.1 (by rw [h];simp [post]) hd h0;have h2:=a0g b l (pre++post a) (⟨4,n_⟩ :: suf) (d+1) ho.2 (by rw [h];simp [post]) (by rw [List.length_append];exact h1) (by omega)
  have hc:l[(pre++post a).length+(post b).length]?=some ⟨4,n_⟩:=by
   rw [h,show pre++(post (.or a b)++suf)=(pre++post a++post b)++(⟨4,n_⟩ :: suf) by simp [post],← List.length_append];simp
  show C_ l (pre.length+(post a++(post b++[(⟨4,n_⟩:Cel)])).length)=_
  rw [show pre.length+(post a++(post b++[(⟨4,n_⟩:Cel)])).length=(pre++post a).length+(post b).length+1 by simp;omega,C_,h2,hc]
  have:¬ d+1+1<2:=by omega
  simp [b4Y,P_,this]
  omega
 | .star a,l,pre,suf,d,ho,h,hd,h0=>by
  have h1:=a0g a l pre (⟨5,n_⟩ :: suf) d ho (by rw [h];simp [post]) hd h0
  have hc:l[pre.length+(post a).length]?=some ⟨5,n_⟩:=by
   rw [h,show pre++(post (.star a)++suf)=(pre++post a)++(⟨5,n_⟩ :: suf) by simp [post],← List.length_append];simp
  show C_ l (pre.length+(post a++[(⟨5,n_⟩:Cel)]).length)=_
  rw [show pre.length+(post a++[(⟨5,n_⟩:Cel)]).length=pre.length+(post a).length+1 by simp;omega,C_,h1,hc]
  have:¬ d+1<1:=by omega
  simp [b4Y,P_,this]
 | .plus a,l,pre,suf,d,ho,h,hd,h0=>by
  have h1:=a0g a l pre (⟨6,n_⟩ :: suf) d ho (by rw [h];simp [post]) hd h0
  have hc:l[pre.length+(post a).length]?=some ⟨6,n_⟩:=by
   rw [h,show pre++(post (.plus a)++suf)=(pre++post a)++(⟨6,n_⟩ :: suf) by simp [post],← List.length_append];simp
  show C_ l (pre.length+(post a++[(⟨6,n_⟩:Cel)]).length)=_
  rw [show pre.length+(post a++[(⟨6,n_⟩:Cel)]).length=pre.length+(post a).length+1 by simp;omega,C_,h1,hc]
  have:¬ d+1<1:=by omega
  simp [b4Y,P_,this]
 | .opt a,l,pre,suf,d,ho,h,hd,h0=>by
  have h1:=a0g a l pre (⟨7,n_⟩ :: suf) d ho (by rw [h];simp [post]) hd h0
  have hc:l[pre.length+(post a).length]?=some ⟨7,n_⟩:=by
   rw [h,show pre++(post (.opt a)++suf)=(pre++post a)++(⟨7,n_⟩ :: suf) by simp [post],← List.length_append];simp
  show C_ l (pre.length+(post a++[(⟨7,n_⟩:Cel)]).length)=_
  rw [show pre.length+(post a++[(⟨7,n_⟩:Cel)]).length=pre.length+(post a).length+1 by simp;omega,C_,h1,hc]
  have:¬ d+1<1:=by omega
  simp [b4Y,P_,this]
theorem b1d {t:Rx} (ho:t.ok) (hl:(post t).length≤60):v_ (post t)=true:=by
 have h:=a0g t (post t) [] [] 0 ho (by simp) rfl (by omega);simp only [List.length_nil,Nat.zero_add] at h
 have:=b6a t
 simp [v_,h,hl]
 omega
abbrev Txt:=List UInt8
def a7I (c:UInt8):Bool:=[46,42,43,63,40,41,91,93,124,47].contains c
def a4M (c:UInt8):Bool:=[91,93,94,45,47].contains c
def c2C (c:UInt8):Bool:=[46,42,43,63,40,41,91,93,124,92,47,45,94].contains c
def b1z (c:UInt8):Option Nat:=
 if 48≤c∧c≤57 then some (c.toNat - 48) else if 97≤c∧c≤102 then some (c.toNat - 87) else if 65≤c∧c≤70 then some (c.toNat - 55) else none
def a6W:Txt→Option (Nat×Txt)
 | []=>none
 | d :: r =>
  if d=110 then some (10,r) else if d=116 then some (9,r) else if d=114 then some (13,r)
  else if d=120 then
   match r with
   | x :: y :: q=>match b1z x,b1z y with
    | some a,some b=>some (16 * a+b,q)
    | _,_=>none
   | _=>none
  else if c2C d then some (d.toNat,r) else none
def a0C (left:UInt8→Bool):Txt→Option (Nat×Txt)
 | []=>none
 | c :: r=>if c<32∨126<c then none else if c=92 then a6W r else if left c then none else some (c.toNat,r)
theorem c3i {s:Txt} {b:Nat} {q:Txt} (r:Txt) (h:a6W s=some (b,q)):a6W (s++r)=some (b,q++r):=by
 cases s with
 | nil=>cases h
 | cons d s =>
  simp only [List.cons_append,a6W] at h ⊢;split
  · rename_i h1;rw [if_pos h1] at h;injection h with h;injection h with h2 h3;subst h2 h3;rfl
  rename_i h1;rw [if_neg h1] at h
  split
  · rename_i h1;rw [if_pos h1] at h;injection h with h;injection h with h2 h3;subst h2 h3;rfl
  rename_i h1;rw [if_neg h1] at h
  split
  · rename_i h1;rw [if_pos h1] at h;injection h with h;injection h with h2 h3;subst h2 h3;rfl
  rename_i h1;rw [if_neg h1] at h
  split
  · rename_i h1;rw [if_pos h1] at h
    match s,h with
    | x :: y :: z,h =>
     simp only [List.cons_append] at h ⊢;split at h
     · rename_i a b' ha hb
       injection h with h;injection h with h2 h3;subst h2 h3
       first | rfl | rw [ha,hb]
     · cases h
  rename_i h1;rw [if_neg h1] at h
  split
  · rename_i h1;rw [if_pos h1] at h;injection h with h;injection h with h2 h3;subst h2 h3;rfl
  · rename_i h1;rw [if_neg h1] at h;cases h
theorem c0o {s:Txt} {b:Nat} {q:Txt} (h:a6W s=some (b,q)):q.length<s.length:=by
 cases s with
 | nil=>cases h
 | cons d s =>
  simp only [a6W] at h;split at h
  · injection h with h;injection h with h2 h3;subst h3;simp
  split at h
  · injection h with h;injection h with h2 h3;subst h3;simp
  split at h
  · injection h with h;injection h with h2 h3;subst h3;simp
  split at h
  · match s,h with
    | x :: y :: z,h =>
     simp only at h
     split at h
     · injection h with h;injection h with h2 h3;subst h3;simp;omega
     · cases h
  split at h
  · injection h with h;injection h with h2 h3;subst h3;simp
  · cases h
theorem a1E {left:UInt8→Bool} {s:Txt} {b:Nat} {q:Txt} (h:a0C left s=some (b,q)):q.length<s.length:=by
 cases s with
 | nil=>cases h
 | cons c s =>
  simp only [a0C] at h;split at h
  · cases h
  split at h
  · have:=c0o h;simp;omega
  split at h
  · cases h
  · injection h with h;injection h with h2 h3;subst h3;simp
def c0Y (c:UInt8):Bool:=a7I c || c == 92
def c0X (c:UInt8):Bool:=a4M c || c == 92
end Go.Proofs.YtjgedijclkoemaaGreatDoor
namespace Go.Proofs.YtjgedijclkoemaaGreatDoor
open Go.ChangeShapes Go.WideShapes Go.ChangeAt Go.RowKit
open Go.ChangeMaps (open_string shut_string)
theorem hid {p:Prop} (h:p):Hid p:=h
set_option maxRecDepth 20000 in
theorem Tryz.own:ownKnob Tryz.prog.godebug=none:=by kernel_rfl
set_option maxRecDepth 20000 in
theorem Tryz.laidOut:laidOutB Tryz.prog=true:=by kernel_rfl
theorem a2C {H:Type} {enc:TypeId×Value→H} {P:Program} (hl:laidOutB P=true) {W W':World} (hb:Below W.heap.size W W') :
 ∀ {ts:List TypeId} {vs:List Value} {ds:List (DataW H)} {ps:List MemPlace},(ts.all fun t=>P.readableRec t && decide (t<P.types.size))=true→(∀ x∈ps,x.block<W.heap.size) →
  DataW.TrodAll enc P W 0 (fun _=>true) true ts vs ds ps→DataW.TrodAll enc P W' 0 (fun b=>decide (b<W.heap.size)) true ts vs ds ps
 | [],[],[],_,_,_,h=>h
 | [],[],_ :: _,_,_,_,h=>h.elim
 | [],_ :: _,_,_,_,_,h=>h.elim
 | _ :: _,[],_,_,_,_,h=>h.elim
 | _ :: _,_ :: _,[],_,_,_,h=>h.elim
 | t :: ts,v :: vs,d :: ds,ps,ht,hlt,h=>by
  obtain ⟨p,q,h1,h2,rfl⟩:=h;simp only [List.all_cons,Bool.and_eq_true,decide_eq_true_eq] at ht
  exact ⟨p,q,Below.trod hl ht.1.1 ht.1.2 h1 hb (fun x hx=>hlt x (List.mem_append_left _ hx)),
   a2C hl hb (by simpa using ht.2) (fun x hx=>hlt x (List.mem_append_right _ hx)) h2,rfl⟩
set_option maxRecDepth 20000 in
theorem a2r {H:Type} {enc:TypeId×Value→H} {f:Func} {s:ChangeSpec} {W W':World} {args:Array Value} {ds gs:List (DataW H)} {before:List MemPlace}
 (hts:(f.params.toList.all fun t=>Tryz.prog.readableRec t && decide (t<Tryz.prog.types.size))=true) (hvars:s.vars=[]) (hres:f.resultTypes=#[4])
 (hfn:s.fn H (ds++gs)={ results:=[.lit (.bool true)],args:=ds })
 (hW:DataW.Whole enc Tryz.prog f.params.toList s.vars false W args.toList ds gs before) (hb:Below W.heap.size W W') :
 s.post enc Tryz.prog f false true false false W args (.bool true) W':=by
 have hlt:∀ x∈before,x.block<W.heap.size:=fun x hx=>hW.lt x hx
 have hW':=hW;obtain ⟨p,q,hA,hV,rfl,hfz,hnd⟩:=hW;refine ⟨ds,gs,p++q,[],p,[],hW',?_,?_,?_,?_,fun h=>by cases h⟩
 · rw [hfn,hres];exact trodAll_mk1 (shut_bool Tryz.underlying4 true)
 · rw [hfn];exact a2C Tryz.laidOut hb hts (fun x hx=>hlt x (List.mem_append_left _ hx)) hA
 · rw [hfn,hvars];exact rfl
 · exact hb.frame _
end Go.Proofs.YtjgedijclkoemaaGreatDoor
namespace Go.Proofs.YtjgedijclkoemaaGreatDoor
open Go.RowKit
theorem c3n {z:Int} (h0:0≤z) (h1:z<18446744073709551616):IntKind.u64.wrap z=z:=by
 rw [IntKind.wrap_u64];omega
theorem b5Z {j:Nat} (h:j<64):2 ^ j<18446744073709551616:=by
 have:(2:Nat) ^ j<2 ^ 64:=Nat.pow_lt_pow_right (by omega) h
 omega
theorem b5p {j:Nat} (h:j<64):IntKind.u64.wrap ((2:Int) ^ j)=((2 ^ j:Nat):Int):=by
 rw [c3n (by exact Int.pow_nonneg (by omega)) (by have:=b5Z h;rw [show ((2:Int) ^ j)=((2 ^ j:Nat):Int) by push_cast;rfl];omega)]
 push_cast;rfl
abbrev a5E (S:W4):Value:=.agg #[.int .u64 (S.a:Int),.int .u64 (S.b:Int),.int .u64 (S.c:Int),.int .u64 (S.d:Int)]
theorem al' (u:World) (o:Obj):Below u.heap.size u (u.alloc o):=(Below.refl _ u).alloc (Nat.le_refl _) _
theorem a_ {w u w1:World} (h:Below w.heap.size w u) (hb:Below u.heap.size u w1):Below w.heap.size w w1:=h.trans (hb.mono h.size)
theorem x_ {B:Nat} {u w:World} (h:Below B u w) (b o:Nat) (v:Value) (hb:B≤b):Below B u (w.setCell ⟨b,o,none⟩ v):=h.setCell (p:=⟨b,o,none⟩) hb v
theorem b_ (w:World) (o:Obj):(w.alloc o).heap[w.heap.size]?=some o:=by
 show (w.heap.push o)[w.heap.size]?=some o
 simp
theorem a0P (w:World) (o o':Obj):((w.alloc o).alloc o').heap[w.heap.size]?=some o∧((w.alloc o).alloc o').heap[w.heap.size+1]?=some o':=by
 refine ⟨(Below.heap_alloc _ _ _ (by simp)).trans (b_ w o),?_⟩
 have:=b_ (w.alloc o) o'
 rwa [show (w.alloc o).heap.size=w.heap.size+1 by simp] at this
theorem c2R {w:World} {b:Nat} {x0 x1 x2 x3:Value} {T:TypeId} (h:w.heap[b]?=some (.cells #[x0,x1,x2,x3] T (0,0))) :
 w.cell? ⟨b,0,none⟩=some x0∧w.cell? ⟨b,1,none⟩=some x1∧w.cell? ⟨b,2,none⟩=some x2∧w.cell? ⟨b,3,none⟩=some x3 ∧
 w.frozen? ⟨b,0,none⟩=false∧w.frozen? ⟨b,1,none⟩=false∧w.frozen? ⟨b,2,none⟩=false∧w.frozen? ⟨b,3,none⟩=false:=by
 simp [World.cell?,World.frozen?,h]
def Blk (w:World) (b:Nat) (S:W4):Prop:=w.heap[b]?=some (.cells #[.int .u64 (S.a:Int),.int .u64 (S.b:Int),.int .u64 (S.c:Int),.int .u64 (S.d:Int)] 202 (0,0))
theorem Blk.lt {w:World} {b:Nat} {S:W4} (h:Blk w b S):b<w.heap.size:=by
 rcases Nat.lt_or_ge b w.heap.size with h' | h'
 · exact h'
 · unfold Blk at h;rw [Array.getElem?_eq_none h'] at h;cases h
theorem Blk.keep {w w':World} {b:Nat} {S:W4} (h:Blk w b S) (hb:Below w.heap.size w w'):Blk w' b S:=(hb.block b h.lt).trans h
theorem Blk.cells {w:World} {b sa sb sc sd:Nat} (h:Blk w b ⟨sa,sb,sc,sd⟩) :
 w.cell? ⟨b,0,none⟩=some (.int .u64 sa)∧w.cell? ⟨b,1,none⟩=some (.int .u64 sb)∧w.cell? ⟨b,2,none⟩=some (.int .u64 sc)∧w.cell? ⟨b,3,none⟩=some (.int .u64 sd) ∧
 w.frozen? ⟨b,0,none⟩=false∧w.frozen? ⟨b,1,none⟩=false∧w.frozen? ⟨b,2,none⟩=false∧w.frozen? ⟨b,3,none⟩=false:=c2R h
theorem heap_setCell {w:World} {b o:Nat} {cs:Array Value} {T:TypeId} {fr:Nat×Nat} {v:Value} (h:w.heap[b]?=some (.cells cs T fr)):(w.setCell ⟨b,o,none⟩ v).heap[b]?=some (.cells (cs.setIfInBounds o v) T fr):=by
 simp [World.setCell,Array.getElem?_modify,h]
def put4 (w:World) (b:Nat) (S:W4):World:=(((w.setCell ⟨b,0,none⟩ (.int .u64 (S.a:Int))).setCell ⟨b,1,none⟩ (.int .u64 (S.b:Int))).setCell ⟨b,2,none⟩ (.int .u64 (S.c:Int))).setCell ⟨b,3,none⟩ (.int .u64 (S.d:Int))
theorem Blk.put {w:World} {b:Nat} {S S':W4} (h:Blk w b S):Blk (put4 w b S') b S':=heap_setCell (heap_setCell (heap_setCell (heap_setCell h)))
theorem Blk.other {w:World} {b k:Nat} {S S':W4} (h:Blk w k S) (hne:k≠b):Blk (put4 w b S') k S:=by
 unfold put4 Blk;rw [Below.heap_setCell _ _ _ _ hne,Below.heap_setCell _ _ _ _ hne,Below.heap_setCell _ _ _ _ hne,Below.heap_setCell _ _ _ _ hne];exact h
theorem b0I {B:Nat} {u w:World} (h:Below B u w) {b:Nat} (S:W4) (hb:B≤b):Below B u (put4 w b S):=x_ (x_ (x_ (x_ h _ _ _ hb) _ _ _ hb) _ _ _ hb) _ _ _ hb
theorem a0l (u:World) (o:Obj):(u.alloc o).heap.size=u.heap.size+1:=by simp
theorem a0q (w:World) (o o' o'':Obj):(((w.alloc o).alloc o').alloc o'').heap[w.heap.size]?=some o∧(((w.alloc o).alloc o').alloc o'').heap[w.heap.size+1]?=some o'∧(((w.alloc o).alloc o').alloc o'').heap[w.heap.size+2]?=some o'':=by
 refine ⟨(Below.heap_alloc _ _ _ (by rw [a0l,a0l];omega)).trans (a0P w o o').1,(Below.heap_alloc _ _ _ (by rw [a0l,a0l];omega)).trans (a0P w o o').2,?_⟩
 have:=b_ ((w.alloc o).alloc o') o''
 rwa [show ((w.alloc o).alloc o').heap.size=w.heap.size+2 by simp] at this
theorem a1g (w:World) (o o' o'' o3:Obj):((((w.alloc o).alloc o').alloc o'').alloc o3).heap[w.heap.size]?=some o∧((((w.alloc o).alloc o').alloc o'').alloc o3).heap[w.heap.size+1]?=some o'∧((((w.alloc o).alloc o').alloc o'').alloc o3).heap[w.heap.size+2]?=some o''∧((((w.alloc o).alloc o').alloc o'').alloc o3).heap[w.heap.size+3]?=some o3:=by
 obtain ⟨h1,h2,h3⟩:=a0q w o o' o'';refine ⟨(Below.heap_alloc _ _ _ (by rw [a0l,a0l,a0l];omega)).trans h1,(Below.heap_alloc _ _ _ (by rw [a0l,a0l,a0l];omega)).trans h2,(Below.heap_alloc _ _ _ (by rw [a0l,a0l,a0l];omega)).trans h3,?_⟩
 have:=b_ (((w.alloc o).alloc o').alloc o'') o3
 rwa [show (((w.alloc o).alloc o').alloc o'').heap.size=w.heap.size+3 by simp] at this
theorem b3w (S:W4):Fit4 (a4I S):=by unfold a4I;exact a1b _
end Go.Proofs.YtjgedijclkoemaaGreatDoor
namespace Go.Proofs.YtjgedijclkoemaaGreatDoor
def G_:Nat→Bool→W4→Txt→Option (W4×Txt)
 | 0,_,_,_=>none
 | n+1,first,acc,s =>
  if !first && s.head? == some 93 then some (acc,s.tail) else
  match a0C a4M s with
  | none=>none
  | some (a,s1) =>
   if s1.head? == some 45 then
    match a0C a4M s1.tail with
    | none=>none
    | some (b,s2)=>if b<a then none else G_ n false (orB acc (H_ a b)) s2
   else G_ n false (orB acc (H_ a a)) s1
def a0K (n:Nat) (s:Txt):Option (W4×Txt):=
 if s.head? == some 94 then
  match G_ n true n_ s.tail with
  | none=>none
  | some (S,r)=>if a4I S=n_ then none else some (a4I S,r)
 else
  match G_ n true n_ s with
  | none=>none
  | some (S,r)=>if S=n_ then none else some (S,r)
def E_:Rx→Txt→Rx×Txt
 | t,[]=>(t,[])
 | t,c :: r=>if c=42 then E_ (.star t) r else if c=43 then E_ (.plus t) r else if c=63 then E_ (.opt t) r else (t,c :: r)
def a3f (s:Txt):Bool:=s.isEmpty || s.head? == some 124 || s.head? == some 41
mutual
def a0I:Nat→Txt→Option (Rx×Txt)
 | 0,_=>none
 | _+1,[]=>none
 | n+1,c :: r =>
  if c=40 then
   if r.head? == some 41 then some (.eps,r.tail) else
   match a1r n r with
   | some (t,q)=>if q.head? == some 41 then some (t,q.tail) else none
   | none=>none
  else if c=46 then some (.set (a4I (H_ 10 10)),r)
  else if c=91 then
   match a0K (r.length+1) r with
   | some (S,q)=>some (.set S,q)
   | none=>none
  else match a0C a7I (c :: r) with
   | some (b,q)=>some (.set (H_ b b),q)
   | none=>none
def a5b:Nat→Txt→Option (Rx×Txt)
 | 0,_=>none
 | n+1,s=>match a0I n s with
  | some (t,q)=>a1j n (E_ t q).1 (E_ t q).2
  | none=>none
def a1j:Nat→Rx→Txt→Option (Rx×Txt)
 | 0,_,_=>none
 | n+1,acc,s=>if a3f s then some (acc,s) else match a0I n s with
  | some (t,q)=>a1j n (.cat acc (E_ t q).1) (E_ t q).2
  | none=>none
def a1r:Nat→Txt→Option (Rx×Txt)
 | 0,_=>none
 | n+1,s=>match a5b n s with
  | some (t,q)=>a6V n t q
  | none=>none
def a6V:Nat→Rx→Txt→Option (Rx×Txt)
 | 0,_,_=>none
 | n+1,acc,s=>if s.head? == some 124 then
  match a5b n s.tail with
  | some (t,q)=>a6V n (.or acc t) q
  | none=>none
  else some (acc,s)
end
theorem a0n:∀ (s:Txt) (t:Rx),(E_ t s).2.length≤s.length
 | [],t=>by simp [E_]
 | c :: r,t=>by
  unfold E_;split
  · have:=a0n r (.star t);simp;omega
  split
  · have:=a0n r (.plus t);simp;omega
  split
  · have:=a0n r (.opt t);simp;omega
  · exact Nat.le_refl _
theorem a3N:∀ (n:Nat) (first:Bool) (acc:W4) (s:Txt) (S:W4) (q:Txt),G_ n first acc s=some (S,q)→q.length≤s.length
 | 0,_,_,_,_,_,h=>by simp [G_] at h
 | n+1,first,acc,s,S,q,h=>by
  unfold G_ at h;split at h
  · injection h with h;injection h with _ h;subst h;simp
  split at h
  · cases h
  rename_i a s1 hs
  have h1:=a1E hs;split at h
  · split at h
    · cases h
    rename_i b s2 hs2
    have h2:=a1E hs2;have h3:s1.tail.length≤s1.length:=by simp
    split at h
    · cases h
    · have:=a3N n _ _ _ _ _ h;omega
  · have:=a3N n _ _ _ _ _ h;omega
theorem b0E {n:Nat} {s:Txt} {S:W4} {q:Txt} (h:a0K n s=some (S,q)):q.length≤s.length:=by
 unfold a0K at h;split at h
 · split at h
   · cases h
   rename_i S' r hi
   have:=a3N _ _ _ _ _ _ hi
   have h3:s.tail.length≤s.length:=by simp
   split at h
   · cases h
   · injection h with h;injection h with _ h;subst h;omega
 · split at h
   · cases h
   rename_i S' r hi
   have:=a3N _ _ _ _ _ _ hi
   split at h
   · cases h
   · injection h with h;injection h with _ h;subst h;omega
theorem a3I:∀ n,(∀ s t q,a0I n s=some (t,q)→q.length<s.length)∧(∀ s t q,a5b n s=some (t,q)→q.length<s.length)∧(∀ a s t q,a1j n a s=some (t,q)→q.length≤s.length)∧(∀ s t q,a1r n s=some (t,q)→q.length<s.length)∧(∀ a s t q,a6V n a s=some (t,q)→q.length≤s.length)
 | 0=>⟨fun _ _ _ h=>by simp [a0I] at h,fun _ _ _ h=>by simp [a5b] at h,fun _ _ _ _ h=>by simp [a1j] at h,fun _ _ _ h=>by simp [a1r] at h,fun _ _ _ _ h=>by simp [a6V] at h⟩
 | n+1=>by
  obtain ⟨iA,iR,iM,iS,iO⟩:=a3I n;refine ⟨fun s t q h=>?_,fun s t q h=>?_,fun a s t q h=>?_,fun s t q h=>?_,fun a s t q h=>?_⟩
  · cases s with
    | nil=>simp [a0I] at h
    | cons c r =>
     rw [a0I] at h;split at h
     · split at h
       · injection h with h;injection h with _ h;subst h;simp;omega
       split at h
       · rename_i t' q' hr
         have:=iS _ _ _ hr
         have h3:q'.tail.length≤q'.length:=by simp
         split at h
         · injection h with h;injection h with _ h;subst h;simp only [List.length_cons];omega
         · cases h
       · cases h
     split at h
     · injection h with h;injection h with _ h;subst h;simp
     split at h
     · split at h
       · rename_i S q' hc
         have:=b0E hc
         injection h with h;injection h with _ h;subst h;simp only [List.length_cons];omega
       · cases h
     split at h
     · rename_i b q' hs
       have:=a1E hs
       injection h with h;injection h with _ h;subst h;exact this
     · cases h
  · rw [a5b] at h
    split at h
    · rename_i t' q' ha
      have h1:=iA _ _ _ ha;have h2:=iM _ _ _ _ h;have h3:=a0n q' t';omega
    · cases h
  · rw [a1j] at h
    split at h
    · injection h with h;injection h with _ h;subst h;exact Nat.le_refl _
    split at h
    · rename_i t' q' ha
      have h1:=iA _ _ _ ha;have h2:=iM _ _ _ _ h;have h3:=a0n q' t';omega
    · cases h
  · rw [a1r] at h
    split at h
    · rename_i t' q' ha
      have h1:=iR _ _ _ ha;have h2:=iO _ _ _ _ h;omega
    · cases h
  · rw [a6V] at h
    split at h
    · split at h
      · rename_i t' q' ha
        have h1:=iR _ _ _ ha;have h2:=iO _ _ _ _ h;have h3:s.tail.length≤s.length:=by simp
        omega
      · cases h
    · injection h with h;injection h with _ h;subst h;exact Nat.le_refl _
theorem a1M:∀ n,(∀ s,3 * s.length+1≤n→a0I n s=a0I (n+1) s)∧(∀ s,3 * s.length+2≤n→a5b n s=a5b (n+1) s)∧(∀ a s,3 * s.length+2≤n→a1j n a s=a1j (n+1) a s)∧(∀ s,3 * s.length+3≤n→a1r n s=a1r (n+1) s)∧(∀ a s,3 * s.length+3≤n→a6V n a s=a6V (n+1) a s)
 | 0=>⟨fun _ h=>by omega,fun _ h=>by omega,fun _ _ h=>by omega,fun _ h=>by omega,fun _ _ h=>by omega⟩
 | n+1=>by
  obtain ⟨iA,iR,iM,iS,iO⟩:=a1M n;obtain ⟨lA,lR,lM,lS,lO⟩:=a3I n;refine ⟨fun s h=>?_,fun s h=>?_,fun a s h=>?_,fun s h=>?_,fun a s h=>?_⟩
  · cases s with
    | nil=>simp [a0I]
    | cons c r =>
     simp only [List.length_cons] at h;rw [a0I,a0I,iS r (by omega)]
  · rw [a5b,a5b,← iA s (by omega)]
    cases e:a0I n s with
    | none=>rfl
    | some x =>
     obtain ⟨t,q⟩:=x;have h1:=lA _ _ _ e;have h2:=a0n q t;exact iM _ _ (by omega)
  · rw [a1j,a1j,← iA s (by omega)]
    split
    · rfl
    cases e:a0I n s with
    | none=>rfl
    | some x =>
     obtain ⟨t,q⟩:=x;have h1:=lA _ _ _ e;have h2:=a0n q t;exact iM _ _ (by omega)
  · rw [a1r,a1r,← iR s (by omega)]
    cases e:a5b n s with
    | none=>rfl
    | some x =>
     obtain ⟨t,q⟩:=x;have h1:=lR _ _ _ e;exact iO _ _ (by omega)
  · rw [a6V,a6V]
    cases s with
    | nil=>rfl
    | cons c r =>
     simp only [List.length_cons] at h;split
     · rw [List.tail_cons,← iR r (by omega)]
       cases e:a5b n r with
       | none=>rfl
       | some x =>
        obtain ⟨t,q⟩:=x;have h1:=lR _ _ _ e;exact iO _ _ (by omega)
     · rfl
theorem a0u {n m:Nat} (h:n≤m):(∀ s,3 * s.length+1≤n→a0I n s=a0I m s)∧(∀ s,3 * s.length+2≤n→a5b n s=a5b m s)∧(∀ a s,3 * s.length+2≤n→a1j n a s=a1j m a s)∧(∀ s,3 * s.length+3≤n→a1r n s=a1r m s)∧(∀ a s,3 * s.length+3≤n→a6V n a s=a6V m a s):=by
 induction h with
 | refl=>exact ⟨fun _ _=>rfl,fun _ _=>rfl,fun _ _ _=>rfl,fun _ _=>rfl,fun _ _ _=>rfl⟩
 | step hm ih =>
  rename_i m
  have hm':n≤m:=hm;obtain ⟨iA,iR,iM,iS,iO⟩:=ih;obtain ⟨fA,fR,fM,fS,fO⟩:=a1M m;exact ⟨fun s h=>(iA s h).trans (fA s (by omega)),fun s h=>(iR s h).trans (fR s (by omega)),fun a s h=>(iM a s h).trans (fM a s (by omega)),fun s h=>(iS s h).trans (fS s (by omega)),fun a s h=>(iO a s h).trans (fO a s (by omega))⟩
def a1B (s:Txt):Option (Rx×Txt):=a0I (3 * s.length+3) s
def b1P (s:Txt):Option (Rx×Txt):=a5b (3 * s.length+3) s
def a3o (a:Rx) (s:Txt):Option (Rx×Txt):=a1j (3 * s.length+3) a s
def a0M (s:Txt):Option (Rx×Txt):=a1r (3 * s.length+3) s
def b6f (a:Rx) (s:Txt):Option (Rx×Txt):=a6V (3 * s.length+3) a s
theorem b0J {s:Txt} {n:Nat} (h:3 * s.length+1≤n):a0I n s=a1B s:=by
 rcases Nat.le_total n (3 * s.length+3) with h' | h'
 · exact (a0u h').1 s h
 · exact ((a0u h').1 s (by omega)).symm
theorem b2C {s:Txt} {n:Nat} (h:3 * s.length+2≤n):a5b n s=b1P s:=by
 rcases Nat.le_total n (3 * s.length+3) with h' | h'
 · exact (a0u h').2.1 s h
 · exact ((a0u h').2.1 s (by omega)).symm
theorem b0a {a:Rx} {s:Txt} {n:Nat} (h:3 * s.length+2≤n):a1j n a s=a3o a s:=by
 rcases Nat.le_total n (3 * s.length+3) with h' | h'
 · exact (a0u h').2.2.1 a s h
 · exact ((a0u h').2.2.1 a s (by omega)).symm
theorem b5K {s:Txt} {n:Nat} (h:3 * s.length+3≤n):a1r n s=a0M s:=((a0u h).2.2.2.1 s (Nat.le_refl _)).symm
theorem b3l {a:Rx} {s:Txt} {n:Nat} (h:3 * s.length+3≤n):a6V n a s=b6f a s:=((a0u h).2.2.2.2 a s (Nat.le_refl _)).symm
theorem a6L {s:Txt} {t:Rx} {q:Txt} (h:a1B s=some (t,q)):q.length<s.length:=(a3I _).1 _ _ _ h
theorem a5V {s:Txt} {t:Rx} {q:Txt} (h:b1P s=some (t,q)):q.length<s.length:=(a3I _).2.1 _ _ _ h
theorem a3Q (c:UInt8) (r:Txt):a1B (c :: r) =
 if c=40 then
  if r.head? == some 41 then some (.eps,r.tail) else
  match a0M r with
  | some (t,q)=>if q.head? == some 41 then some (t,q.tail) else none
  | none=>none
 else if c=46 then some (.set (a4I (H_ 10 10)),r)
 else if c=91 then
  match a0K (r.length+1) r with
  | some (S,q)=>some (.set S,q)
  | none=>none
 else match a0C a7I (c :: r) with
  | some (b,q)=>some (.set (H_ b b),q)
  | none=>none:=by
 show a0I (3 * (r.length+1)+2+1) (c :: r)=_
 rw [a0I,b5K (by omega)]
theorem b8Q (s:Txt):b1P s=match a1B s with
 | some (t,q)=>a3o (E_ t q).1 (E_ t q).2
 | none=>none:=by
 show a5b (3 * s.length+2+1) s=_
 rw [a5b,b0J (by omega)];cases e:a1B s with
 | none=>rfl
 | some x =>
  obtain ⟨t,q⟩:=x;have h1:=a6L e;have h2:=a0n q t;exact b0a (by omega)
theorem b6v (a:Rx) (s:Txt):a3o a s=if a3f s then some (a,s) else match a1B s with
 | some (t,q)=>a3o (.cat a (E_ t q).1) (E_ t q).2
 | none=>none:=by
 show a1j (3 * s.length+2+1) a s=_
 rw [a1j,b0J (by omega)];split
 · rfl
 cases e:a1B s with
 | none=>rfl
 | some x =>
  obtain ⟨t,q⟩:=x;have h1:=a6L e;have h2:=a0n q t;exact b0a (by omega)
theorem b5J (s:Txt):a0M s=match b1P s with
 | some (t,q)=>b6f t q
 | none=>none:=by
 show a1r (3 * s.length+2+1) s=_
 rw [a1r,b2C (by omega)];cases e:b1P s with
 | none=>rfl
 | some x =>
  obtain ⟨t,q⟩:=x;have h1:=a5V e;exact b3l (by omega)
theorem b3k (a:Rx) (s:Txt):b6f a s=if s.head? == some 124 then
 match b1P s.tail with
 | some (t,q)=>b6f (.or a t) q
 | none=>none
 else some (a,s):=by
 show a6V (3 * s.length+2+1) a s=_
 rw [a6V];cases s with
 | nil=>rfl
 | cons c r =>
  split
  · rw [List.tail_cons,List.length_cons,b2C (by omega)]
    cases e:b1P r with
    | none=>rfl
    | some x =>
     obtain ⟨t,q⟩:=x;have h1:=a5V e;exact b3l (by omega)
  · rfl
theorem a9w (b x:Nat) (hx:x<256):a2I (H_ b b) x=decide (x=b):=by
 unfold H_;rw [a8O _ x hx,Bool.eq_iff_iff];simp
 omega
def Rx.fit:Rx→Prop
 | .set S=>Fit4 S
 | .eps=>True
 | .cat a b=>a.fit∧b.fit
 | .or a b=>a.fit∧b.fit
 | .star a=>a.fit
 | .plus a=>a.fit
 | .opt a=>a.fit
theorem b3U:∀ c:UInt8,∀ a,b1z c=some a→a<16:=by
 intro c a h;unfold b1z at h;split at h
 · rename_i h1
   injection h with h
   have:c.toNat≤57:=h1.2
   omega
 split at h
 · rename_i h1
   injection h with h
   have:c.toNat≤102:=h1.2
   omega
 split at h
 · rename_i h1
   injection h with h
   have:c.toNat≤70:=h1.2
   omega
 · cases h
theorem b4n {s:Txt} {b:Nat} {q:Txt} (h:a6W s=some (b,q)):b<256:=by
 cases s with
 | nil=>cases h
 | cons d s =>
  simp only [a6W] at h;split at h
  · injection h with h;injection h with h2 h3;omega
  split at h
  · injection h with h;injection h with h2 h3;omega
  split at h
  · injection h with h;injection h with h2 h3;omega
  split at h
  · match s,h with
    | x :: y :: z,h =>
     simp only at h
     split at h
     · rename_i a b' ha hb
       have h1:=b3U x a ha;have h2:=b3U y b' hb;injection h with h;injection h with h2 h3;omega
     · cases h
  split at h
  · injection h with h;injection h with h2 h3;have:=d.toNat_lt;omega
  · cases h
theorem b0Y {left:UInt8→Bool} {s:Txt} {b:Nat} {q:Txt} (h:a0C left s=some (b,q)):b<256:=by
 cases s with
 | nil=>cases h
 | cons c s =>
  simp only [a0C] at h;split at h
  · cases h
  split at h
  · exact b4n h
  split at h
  · cases h
  · injection h with h;injection h with h2 h3;have:=c.toNat_lt;omega
theorem a4o:∀ (n:Nat) (first:Bool) (acc:W4) (s:Txt) (S:W4) (q:Txt),Fit4 acc→G_ n first acc s=some (S,q)→Fit4 S
 | 0,_,_,_,_,_,_,h=>by simp [G_] at h
 | n+1,first,acc,s,S,q,ha,h=>by
  unfold G_ at h;split at h
  · injection h with h;injection h with h _;subst h;exact ha
  split at h
  · cases h
  split at h
  · split at h
    · cases h
    split at h
    · cases h
    · exact a4o n _ _ _ _ _ (a1b _) h
  · exact a4o n _ _ _ _ _ (a1b _) h
theorem b0D {n:Nat} {s:Txt} {S:W4} {q:Txt} (h:a0K n s=some (S,q)):Fit4 S∧S≠n_:=by
 unfold a0K at h;split at h
 · split at h
   · cases h
   split at h
   · cases h
   · rename_i hne
     injection h with h;injection h with h _;subst h
     exact ⟨a1b _,hne⟩
 · split at h
   · cases h
   rename_i S' r hi
   split at h
   · cases h
   · rename_i hne
     injection h with h;injection h with h _;subst h
     exact ⟨a4o _ _ _ _ _ _ a0j hi,hne⟩
theorem b8I {b:Nat} (h:b<256):H_ b b≠n_:=fun e=>by
 have:=a9w b b h
 rw [e,a0t] at this;simp at this
theorem c2F:a4I (H_ 10 10)≠n_:=fun e=>by
 have:a2I (a4I (H_ 10 10)) 0=true:=by unfold a4I;rw [a8O _ 0 (by omega),a9w 10 0 (by omega)];rfl
 rw [e,a0t] at this;cases this
def Rx.good (t:Rx):Prop:=t.ok∧t.fit
theorem a0R:∀ (s:Txt) (t:Rx),t.good→(E_ t s).1.good
 | [],t,h=>by simpa [E_] using h
 | c :: r,t,h=>by
  unfold E_;split
  · exact a0R r (.star t) h
  split
  · exact a0R r (.plus t) h
  split
  · exact a0R r (.opt t) h
  · exact h
theorem a5g:∀ n,(∀ s t q,a0I n s=some (t,q)→t.good)∧(∀ s t q,a5b n s=some (t,q)→t.good)∧(∀ a s t q,a.good→a1j n a s=some (t,q)→t.good)∧(∀ s t q,a1r n s=some (t,q)→t.good)∧(∀ a s t q,a.good→a6V n a s=some (t,q)→t.good)
 | 0=>⟨fun _ _ _ h=>by simp [a0I] at h,fun _ _ _ h=>by simp [a5b] at h,fun _ _ _ _ _ h=>by simp [a1j] at h,fun _ _ _ h=>by simp [a1r] at h,fun _ _ _ _ _ h=>by simp [a6V] at h⟩
 | n+1=>by
  obtain ⟨iA,iR,iM,iS,iO⟩:=a5g n;refine ⟨fun s t q h=>?_,fun s t q h=>?_,fun a s t q ha h=>?_,fun s t q h=>?_,fun a s t q ha h=>?_⟩
  · cases s with
    | nil=>simp [a0I] at h
    | cons c r =>
     rw [a0I] at h;split at h
     · split at h
       · injection h with h;injection h with h _;subst h;exact ⟨trivial,trivial⟩
       split at h
       · rename_i t' q' hr
         split at h
         · injection h with h;injection h with h _;subst h;exact iS _ _ _ hr
         · cases h
       · cases h
     split at h
     · injection h with h;injection h with h _;subst h;exact ⟨c2F,a1b _⟩
     split at h
     · split at h
       · rename_i S q' hc
         injection h with h;injection h with h _;subst h;exact ⟨(b0D hc).2,(b0D hc).1⟩
       · cases h
     split at h
     · rename_i b q' hs
       injection h with h;injection h with h _;subst h;exact ⟨b8I (b0Y hs),a1b _⟩
     · cases h
  · rw [a5b] at h
    split at h
    · rename_i t' q' ha
      exact iM _ _ _ _ (a0R _ _ (iA _ _ _ ha)) h
    · cases h
  · rw [a1j] at h
    split at h
    · injection h with h;injection h with h _;subst h;exact ha
    split at h
    · rename_i t' q' hb
      have hg:=a0R q' t' (iA _ _ _ hb);exact iM _ _ _ _ (show (Rx.cat a (E_ t' q').1).good from ⟨⟨ha.1,hg.1⟩,⟨ha.2,hg.2⟩⟩) h
    · cases h
  · rw [a1r] at h
    split at h
    · rename_i t' q' hb
      exact iO _ _ _ _ (iR _ _ _ hb) h
    · cases h
  · rw [a6V] at h
    split at h
    · split at h
      · rename_i t' q' hb
        have hg:=iR _ _ _ hb;exact iO _ _ _ _ (show (Rx.or a t').good from ⟨⟨ha.1,hg.1⟩,⟨ha.2,hg.2⟩⟩) h
      · cases h
    · injection h with h;injection h with h _;subst h;exact ha
theorem b1a {s:Txt} {t:Rx} {q:Txt} (h:a0M s=some (t,q)):t.ok∧t.fit:=(a5g _).2.2.2.1 _ _ _ h
/-! ### with a ) behind -/
end Go.Proofs.YtjgedijclkoemaaGreatDoor
namespace Go.Proofs.YtjgedijclkoemaaGreatDoor
open Go.RowKit
structure FitC (c:Cel):Prop where
 lo:-9223372036854775808≤c.op
 hi:c.op≤9223372036854775807
 s:Fit4 c.s
def At5 (w:World) (b o:Nat) (c:Cel):Prop:=w.cell? ⟨b,o,none⟩=some (.int .i64 c.op)∧w.cell? ⟨b,o+1,none⟩=some (.int .u64 (c.s.a:Int))∧w.cell? ⟨b,o+2,none⟩=some (.int .u64 (c.s.b:Int))∧w.cell? ⟨b,o+3,none⟩=some (.int .u64 (c.s.c:Int))∧w.cell? ⟨b,o+4,none⟩=some (.int .u64 (c.s.d:Int))
theorem d_ {u w1:World} (hb:Below u.heap.size u w1) {b o:Nat} {v:Value} (h:u.cell? ⟨b,o,none⟩=some v):w1.cell? ⟨b,o,none⟩=some v:=
 (World.cell?_of_block (hb.block b (World.block_lt_of_cell? u _ h))).trans h
theorem At5.keep {w w':World} {b o:Nat} {c:Cel} (h:At5 w b o c) (hb:Below w.heap.size w w'):At5 w' b o c:=⟨d_ hb h.1,d_ hb h.2.1,d_ hb h.2.2.1,d_ hb h.2.2.2.1,d_ hb h.2.2.2.2⟩
def Cels (w:World) (v:Value) (l:List Cel):Prop:=∃ a cap,v=.slice a l.length cap∧l.length≤cap∧(a=none→cap=0)∧(∀ c∈l,FitC c)∧∀ j (h:j<l.length),∃ b o,a=some ⟨b,o,none⟩∧b<w.heap.size∧At5 w b (o+j * 5) l[j]
theorem Cels.keep {w w':World} {v:Value} {l:List Cel} (h:Cels w v l) (hb:Below w.heap.size w w'):Cels w' v l:=by
 obtain ⟨a,cap,hv,hc,hn,hf,hat⟩:=h;refine ⟨a,cap,hv,hc,hn,hf,fun j hj=>?_⟩;obtain ⟨b,o,ha,hlt,h5⟩:=hat j hj;exact ⟨b,o,ha,Nat.lt_of_lt_of_le hlt hb.size,h5.keep hb⟩
set_option maxRecDepth 20000 in
theorem Tryz.info163:(Tryz.prog.info? 163).map (fun i=>(i.zero,i.size,i.bytes))=some (some (.int .u64 0),1,8):=by kernel_rfl
set_option maxRecDepth 20000 in
theorem Tryz.cells163:Tryz.prog.cellsOf 163=1:=by kernel_rfl
set_option maxRecDepth 20000 in
theorem b4o (d a b c e a' b' c' e':Nat) (w:World) :
 (Op.equalIn (d+2) 202 (a5E ⟨a,b,c,e⟩) (a5E ⟨a',b',c',e'⟩)).run Tryz.prog w=.ok (decide ((⟨a,b,c,e⟩:W4)=⟨a',b',c',e'⟩)) w:=by
 obtain ⟨i0,hi,hz0,hz1,hz2⟩:=info_parts Tryz.info163;have p0:∀ x0 x1 x2 x3:Int,(part 163 #[.int .u64 x0,.int .u64 x1,.int .u64 x2,.int .u64 x3] 0).run Tryz.prog w=.ok (.int .u64 x0) w:=fun _ _ _ _=>by simp [part,isAgg,run_underlying Tryz.underlying163]
 have p1:∀ x0 x1 x2 x3:Int,(part 163 #[.int .u64 x0,.int .u64 x1,.int .u64 x2,.int .u64 x3] 1).run Tryz.prog w=.ok (.int .u64 x1) w:=fun _ _ _ _=>by simp [part,isAgg,run_underlying Tryz.underlying163]
 have p2:∀ x0 x1 x2 x3:Int,(part 163 #[.int .u64 x0,.int .u64 x1,.int .u64 x2,.int .u64 x3] 2).run Tryz.prog w=.ok (.int .u64 x2) w:=fun _ _ _ _=>by simp [part,isAgg,run_underlying Tryz.underlying163]
 have p3:∀ x0 x1 x2 x3:Int,(part 163 #[.int .u64 x0,.int .u64 x1,.int .u64 x2,.int .u64 x3] 3).run Tryz.prog w=.ok (.int .u64 x3) w:=fun _ _ _ _=>by simp [part,isAgg,run_underlying Tryz.underlying163]
 rw [run_equalIn_array w (d+1) _ _ Tryz.underlying202 hi,Tryz.cells163,show List.range 4=[0,1,2,3] from rfl];simp only [Op.eqItems,Sem.run_bind,Nat.mul_one,p0,run_equalIn_int w d 163 .u64 .u64 _ _ Tryz.underlying163,Result.andThen_ok];by_cases h0:a=a'
 · by_cases h1:b=b'
   · by_cases h2:c=c'
     · by_cases h3:e=e'
       · subst h0 h1 h2 h3;simp [p1,p2,p3,run_equalIn_int w d 163 .u64 .u64 _ _ Tryz.underlying163]
       · subst h0 h1 h2;simp [h3,p1,p2,p3,run_equalIn_int w d 163 .u64 .u64 _ _ Tryz.underlying163];omega
     · subst h0 h1;simp [h2,p1,p2,p3,run_equalIn_int w d 163 .u64 .u64 _ _ Tryz.underlying163];omega
   · subst h0;simp [h1,p1,p2,p3,run_equalIn_int w d 163 .u64 .u64 _ _ Tryz.underlying163];omega
 · simp [h0,p1,p2,p3,run_equalIn_int w d 163 .u64 .u64 _ _ Tryz.underlying163];omega
end Go.Proofs.YtjgedijclkoemaaGreatDoor
