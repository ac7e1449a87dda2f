/- How a law's row is closed out of a walk that ends in 'true' and leaves what was there as it was ('Below'): of any arguments. Sets of bytes as four words: facts of numbers alone. Rules as trees: what is right, where operands begin, what fits the empty text. A byte as it is told in a rule's text, and as it is read. -/
import Derived.Test.YtbpnioehmohbcaaGreatRows
import Derived.WalkKit
import Derived.ProofKit
import Derived.OpenShut
import Derived.Carry
import Derived.Lib.SmallJoins
namespace Go.Proofs.YtbpnioehmohbcaaGreat
open Go.ChangeShapes Go.WideShapes Go.ChangeAt Go.RowKit
open Go.ChangeMaps (open_string shut_string)
theorem hid {p:Prop} (h:p):Hid p:=h
set_option maxRecDepth 20000 in
theorem Tryz.own:ownKnob Tryz.prog.godebug = none:=by kernel_rfl
set_option maxRecDepth 20000 in
theorem Tryz.laidOut:laidOutB Tryz.prog = true:=by kernel_rfl
theorem below_trodAll {H:Type} {enc:TypeId × Value → H} {P:Program} (hl:laidOutB P = true) {W W':World} (hb:Below W.heap.size W W') :
 ∀ {ts:List TypeId} {vs:List Value} {ds:List (DataW H)} {ps:List MemPlace},(ts.all fun t => P.readableRec t && decide (t < P.types.size)) = true → (∀ x ∈ ps,x.block < W.heap.size) →
  DataW.TrodAll enc P W 0 (fun _ => true) true ts vs ds ps → DataW.TrodAll enc P W' 0 (fun b => decide (b < W.heap.size)) true ts vs ds ps
 | [],[],[],_,_,_,h => h
 | [],[],_ :: _,_,_,_,h => h.elim
 | [],_ :: _,_,_,_,_,h => h.elim
 | _ :: _,[],_,_,_,_,h => h.elim
 | _ :: _,_ :: _,[],_,_,_,h => h.elim
 | t :: ts,v :: vs,d :: ds,ps,ht,hlt,h => by
  obtain ⟨p,q,h1,h2,rfl⟩:=h
  simp only [List.all_cons,Bool.and_eq_true,decide_eq_true_eq] at ht
  exact ⟨p,q,Below.trod hl ht.1.1 ht.1.2 h1 hb (fun x hx => hlt x (List.mem_append_left _ hx)),
   below_trodAll hl hb (by simpa using ht.2) (fun x hx => hlt x (List.mem_append_right _ hx)) h2,rfl⟩
set_option maxRecDepth 20000 in
theorem law_post {H:Type} {enc:TypeId × Value → H} {f:Func} {s:ChangeSpec} {W W':World} {args:Array Value} {ds gs:List (DataW H)} {before:List MemPlace}
 (hts:(f.params.toList.all fun t => Tryz.prog.readableRec t && decide (t < Tryz.prog.types.size)) = true) (hvars:s.vars = []) (hres:f.resultTypes = #[4])
 (hfn:s.fn H (ds ++ gs) = { results:=[.lit (.bool true)],args:=ds })
 (hW:DataW.Whole enc Tryz.prog f.params.toList s.vars false W args.toList ds gs before) (hb:Below W.heap.size W W') :
 s.post enc Tryz.prog f false true false false W args (.bool true) W':=by
 have hlt:∀ x ∈ before,x.block < W.heap.size:=fun x hx => hW.lt x hx
 have hW':=hW
 obtain ⟨p,q,hA,hV,rfl,hfz,hnd⟩:=hW
 refine ⟨ds,gs,p ++ q,[],p,[],hW',?_,?_,?_,?_,fun h => by cases h⟩
 · rw [hfn,hres];exact trodAll_mk1 (shut_bool Tryz.underlying4 true)
 · rw [hfn];exact below_trodAll Tryz.laidOut hb hts (fun x hx => hlt x (List.mem_append_left _ hx)) hA
 · rw [hfn,hvars];exact rfl
 · exact hb.frame _
end Go.Proofs.YtbpnioehmohbcaaGreat
namespace Go.Proofs.YtbpnioehmohbcaaGreat
structure W4 where
 a:Nat
 b:Nat
 c:Nat
 d:Nat
deriving DecidableEq
def W4.w (S:W4):Nat → Nat
 | 0 => S.a
 | 1 => S.b
 | 2 => S.c
 | _ => S.d
structure Fit4 (S:W4):Prop where
 a:S.a < 18446744073709551616
 b:S.b < 18446744073709551616
 c:S.c < 18446744073709551616
 d:S.d < 18446744073709551616
theorem Fit4.w {S:W4} (h:Fit4 S):∀ i,S.w i < 18446744073709551616
 | 0 => h.a
 | 1 => h.b
 | 2 => h.c
 | _ + 3 => h.d
def hasB (S:W4) (x:Nat):Bool:=(S.w (x / 64)).testBit (x % 64)
def W4.set (S:W4) (i v:Nat):W4:=match i with
 | 0 => ⟨v,S.b,S.c,S.d⟩
 | 1 => ⟨S.a,v,S.c,S.d⟩
 | 2 => ⟨S.a,S.b,v,S.d⟩
 | _ => ⟨S.a,S.b,S.c,v⟩
theorem W4.set_same (S:W4) (i v:Nat):(S.set i v).w i = v:=by
 match i with
 | 0 => rfl
 | 1 => rfl
 | 2 => rfl
 | n + 3 => rfl
theorem W4.set_other (S:W4) (i j v:Nat) (hi:i < 4) (hj:j < 4) (h:j ≠ i):(S.set i v).w j = S.w j:=by
 have hi':i = 0 ∨ i = 1 ∨ i = 2 ∨ i = 3:=by omega
 have hj':j = 0 ∨ j = 1 ∨ j = 2 ∨ j = 3:=by omega
 rcases hi' with rfl | rfl | rfl | rfl <;> rcases hj' with rfl | rfl | rfl | rfl <;> first | rfl | exact absurd rfl h
theorem Fit4.set {S:W4} (h:Fit4 S) (i v:Nat) (hv:v < 18446744073709551616):Fit4 (S.set i v):=by
 match i with
 | 0 => exact ⟨hv,h.b,h.c,h.d⟩
 | 1 => exact ⟨h.a,hv,h.c,h.d⟩
 | 2 => exact ⟨h.a,h.b,hv,h.d⟩
 | n + 3 => exact ⟨h.a,h.b,h.c,hv⟩
theorem word_ext {m n:Nat} (hm:m < 18446744073709551616) (hn:n < 18446744073709551616) (h:∀ j,j < 64 → m.testBit j = n.testBit j):m = n:=by
 apply Nat.eq_of_testBit_eq
 intro j
 by_cases hj:j < 64
 · exact h j hj
 · have h64:(2:Nat) ^ 64 ≤ 2 ^ j:=Nat.pow_le_pow_right (by omega) (by omega)
   rw [Nat.testBit_lt_two_pow (Nat.lt_of_lt_of_le (by omega) h64),Nat.testBit_lt_two_pow (Nat.lt_of_lt_of_le (by omega) h64)]
theorem set_ext {S T:W4} (hS:Fit4 S) (hT:Fit4 T) (h:∀ x,x < 256 → hasB S x = hasB T x):S = T:=by
 have key:∀ i,i < 4 → S.w i = T.w i:=fun i hi => word_ext (hS.w i) (hT.w i) fun j hj => by
  have:=h (64 * i + j) (by omega)
  unfold hasB at this
  rwa [show (64 * i + j) / 64 = i by omega,show (64 * i + j) % 64 = j by omega] at this
 have h0:S.a = T.a:=key 0 (by omega)
 have h1:S.b = T.b:=key 1 (by omega)
 have h2:S.c = T.c:=key 2 (by omega)
 have h3:S.d = T.d:=key 3 (by omega)
 cases S;cases T
 simp only at h0 h1 h2 h3
 subst h0 h1 h2 h3
 rfl
theorem bit_split (n k:Nat) (h:n.testBit k = false):∃ q r,n = 2 ^ (k + 1) * q + r ∧ r < 2 ^ k:=by
 refine ⟨n / 2 ^ (k + 1),n % 2 ^ (k + 1),(Nat.div_add_mod _ _).symm,?_⟩
 have h1:n % 2 ^ (k + 1) < 2 ^ (k + 1):=Nat.mod_lt _ (Nat.two_pow_pos _)
 rw [Nat.testBit_eq_decide_div_mod_eq] at h
 have h2:¬ n / 2 ^ k % 2 = 1:=of_decide_eq_false h
 have h3:n % 2 ^ (k + 1) = 2 ^ k * (n / 2 ^ k % 2) + n % 2 ^ k:=by
  rw [Nat.pow_succ,Nat.mod_mul];omega
 have h4:n % 2 ^ k < 2 ^ k:=Nat.mod_lt _ (Nat.two_pow_pos _)
 have h5:n / 2 ^ k % 2 = 0:=by omega
 rw [h5] at h3
 omega
theorem bit_add (n k:Nat) (h:n.testBit k = false) (j:Nat):(n + 2 ^ k).testBit j = (n.testBit j || decide (j = k)):=by
 obtain ⟨q,r,rfl,hr⟩:=bit_split n k h
 have hp:(2:Nat) ^ (k + 1) = 2 ^ k + 2 ^ k:=by rw [Nat.pow_succ];omega
 rw [Nat.add_assoc,Nat.testBit_two_pow_mul_add _ (by omega),Nat.testBit_two_pow_mul_add _ (by omega)]
 by_cases hj:j < k + 1
 · rw [if_pos hj,if_pos hj,Nat.add_comm r]
   by_cases e:j = k
   · subst e
     rw [Nat.testBit_two_pow_add_eq,Nat.testBit_lt_two_pow hr]
     simp
   · rw [Nat.testBit_two_pow_add_gt (by omega)]
     simp [e]
 · rw [if_neg hj,if_neg hj]
   have:¬ j = k:=by omega
   simp [this]
theorem bit_add_lt (n k:Nat) (h:n.testBit k = false) (hn:n < 18446744073709551616) (hk:k < 64):n + 2 ^ k < 18446744073709551616:=by
 have:n + 2 ^ k < 2 ^ 64:=by
  apply Nat.lt_pow_two_of_testBit
  intro i hi
  rw [bit_add n k h,Nat.testBit_lt_two_pow (Nat.lt_of_lt_of_le hn (show 18446744073709551616 ≤ 2 ^ i from Nat.pow_le_pow_right (n:=2) (by omega) hi))]
  have:¬ i = k:=by omega
  simp [this]
 omega
def putB (S:W4) (x:Nat):W4:=if hasB S x then S else S.set (x / 64) (S.w (x / 64) + 2 ^ (x % 64))
theorem putB_fit {S:W4} (h:Fit4 S) (x:Nat):Fit4 (putB S x):=by
 unfold putB
 cases hx:hasB S x with
 | true => simpa using h
 | false =>
  simp only [Bool.false_eq_true,if_false]
  exact h.set _ _ (bit_add_lt _ _ hx (h.w _) (by omega))
theorem putB_has (S:W4) (x y:Nat) (hx:x < 256) (hy:y < 256):hasB (putB S x) y = (hasB S y || decide (y = x)):=by
 unfold putB
 cases h:hasB S x with
 | true =>
  simp only [if_true]
  by_cases e:y = x
  · subst e;rw [h];rfl
  · simp [e]
 | false =>
  simp only [Bool.false_eq_true,if_false]
  by_cases e:y / 64 = x / 64
  · unfold hasB
    rw [e,W4.set_same]
    have h':(S.w (x / 64)).testBit (x % 64) = false:=h
    rw [bit_add _ _ h']
    congr 1
    rw [decide_eq_decide]
    constructor
    · intro hm;omega
    · intro hm;rw [hm]
  · unfold hasB
    rw [W4.set_other _ _ _ _ (by omega) (by omega) e]
    have:¬ y = x:=fun h => e (by rw [h])
    simp [this]
def noneB:W4:=⟨0,0,0,0⟩
theorem noneB_fit:Fit4 noneB:=⟨by decide,by decide,by decide,by decide⟩
theorem noneB_has (x:Nat):hasB noneB x = false:=by
 have:noneB.w (x / 64) = 0:=by
  unfold W4.w noneB
  split <;> rfl
 unfold hasB
 rw [this,Nat.zero_testBit]
def mkN (p:Nat → Bool):Nat → W4
 | 0 => noneB
 | k + 1 => if p k then putB (mkN p k) k else mkN p k
def mkB (p:Nat → Bool):W4:=mkN p 256
theorem mkN_fit (p:Nat → Bool):∀ k,Fit4 (mkN p k)
 | 0 => noneB_fit
 | k + 1 => by
  unfold mkN
  cases p k with
  | true => simpa using putB_fit (mkN_fit p k) k
  | false => simpa using mkN_fit p k
theorem mkN_has (p:Nat → Bool):∀ k,k ≤ 256 → ∀ x,x < 256 → hasB (mkN p k) x = (decide (x < k) && p x)
 | 0,_,x,_ => by rw [mkN,noneB_has];simp
 | k + 1,hk,x,hx => by
  have ih:=mkN_has p k (by omega) x hx
  unfold mkN
  by_cases e:x = k
  · subst e
    cases hp:p x with
    | true => simp [putB_has _ x x hx hx]
    | false => simp [ih]
  · have h1:decide (x < k + 1) = decide (x < k):=by rw [decide_eq_decide];omega
    rw [h1,← ih]
    cases p k with
    | true => simp [putB_has _ k x (by omega) hx,e]
    | false => simp
theorem mkB_fit (p:Nat → Bool):Fit4 (mkB p):=mkN_fit p 256
theorem mkB_has (p:Nat → Bool) (x:Nat) (hx:x < 256):hasB (mkB p) x = p x:=by
 unfold mkB
 rw [mkN_has p 256 (Nat.le_refl _) x hx]
 simp [hx]
theorem mkB_eq {S:W4} (hS:Fit4 S) {p:Nat → Bool} (h:∀ x,x < 256 → hasB S x = p x):S = mkB p:=
 set_ext hS (mkB_fit p) fun x hx => by rw [h x hx,mkB_has p x hx]
def orB (S T:W4):W4:=mkB fun x => hasB S x || hasB T x
def notB (S:W4):W4:=mkB fun x => !hasB S x
def spanB (f t:Nat):W4:=mkB fun x => decide (f ≤ x) && decide (x ≤ t)
attribute [irreducible] mkN mkB
end Go.Proofs.YtbpnioehmohbcaaGreat
namespace Go.Proofs.YtbpnioehmohbcaaGreat
structure Cel where
 op:Int
 s:W4
deriving DecidableEq
inductive Rx where
 | set (S:W4)
 | eps
 | cat (a b:Rx)
 | or (a b:Rx)
 | star (a:Rx)
 | plus (a:Rx)
 | opt (a:Rx)
def post:Rx → List Cel
 | .set S => [⟨1,S⟩]
 | .eps => [⟨2,noneB⟩]
 | .cat a b => post a ++ (post b ++ [⟨3,noneB⟩])
 | .or a b => post a ++ (post b ++ [⟨4,noneB⟩])
 | .star a => post a ++ [⟨5,noneB⟩]
 | .plus a => post a ++ [⟨6,noneB⟩]
 | .opt a => post a ++ [⟨7,noneB⟩]
def Rx.ok:Rx → Prop
 | .set S => S ≠ noneB
 | .eps => True
 | .cat a b => a.ok ∧ b.ok
 | .or a b => a.ok ∧ b.ok
 | .star a => a.ok
 | .plus a => a.ok
 | .opt a => a.ok
def wants (op:Int):Int:=if op = 1 ∨ op = 2 then 0 else if op = 3 ∨ op = 4 then 2 else if 5 ≤ op ∧ op ≤ 7 then 1 else -1
def badC (d:Int) (c:Cel):Bool:=decide (wants c.op < 0) || decide (d < wants c.op) || (decide (c.s = noneB) == decide (c.op = 1))
def depthN (l:List Cel):Nat → Option Int
 | 0 => some 0
 | k + 1 => match depthN l k,l[k]? with
  | some d,some c => if badC d c then none else some (d - wants c.op + 1)
  | _,_ => none
def rightB (l:List Cel):Bool:=decide (1 ≤ l.length) && decide (l.length ≤ 60) && decide (depthN l l.length = some 1)
theorem post_pos:∀ t,0 < (post t).length
 | .set _ => by simp [post]
 | .eps => by simp [post]
 | .cat a b => by simp [post];omega
 | .or a b => by simp [post];omega
 | .star a => by simp [post]
 | .plus a => by simp [post]
 | .opt a => by simp [post]
theorem depth_post:∀ (t:Rx) (l pre suf:List Cel) (d:Int),t.ok → l = pre ++ (post t ++ suf) → depthN l pre.length = some d → 0 ≤ d → depthN l (pre.length + (post t).length) = some (d + 1)
 | .set S,l,pre,suf,d,ho,h,hd,h0 => by
  have hc:l[pre.length]? = some ⟨1,S⟩:=by rw [h];simp [post]
  show depthN l (pre.length + 1) = _
  rw [depthN,hd,hc]
  have hS:S ≠ noneB:=ho
  simp [badC,wants,hS]
  omega
 | .eps,l,pre,suf,d,ho,h,hd,h0 => by
  have hc:l[pre.length]? = some ⟨2,noneB⟩:=by rw [h];simp [post]
  show depthN l (pre.length + 1) = _
  rw [depthN,hd,hc]
  simp [badC,wants]
  omega
 | .cat a b,l,pre,suf,d,ho,h,hd,h0 => by
  have h1:=depth_post a l pre (post b ++ (⟨3,noneB⟩ :: suf)) d ho.1 (by rw [h];simp [post]) hd h0
  have h2:=depth_post b l (pre ++ post a) (⟨3,noneB⟩ :: suf) (d + 1) ho.2 (by rw [h];simp [post]) (by rw [List.length_append];exact h1) (by omega)
  have hc:l[(pre ++ post a).length + (post b).length]? = some ⟨3,noneB⟩:=by
   rw [h,show pre ++ (post (.cat a b) ++ suf) = (pre ++ post a ++ post b) ++ (⟨3,noneB⟩ :: suf) by simp [post],← List.length_append]
   simp
  show depthN l (pre.length + (post a ++ (post b ++ [(⟨3,noneB⟩:Cel)])).length) = _
  rw [show pre.length + (post a ++ (post b ++ [(⟨3,noneB⟩:Cel)])).length = (pre ++ post a).length + (post b).length + 1 by simp;omega,depthN,h2,hc]
  have:¬ d + 1 + 1 < 2:=by omega
  simp [badC,wants,this]
  omega
 | .or a b,l,pre,suf,d,ho,h,hd,h0 => by
  have h1:=depth_post a l pre (post b ++ (⟨4,noneB⟩ :: suf)) d ho.1 (by rw [h];simp [post]) hd h0
  have h2:=depth_post b l (pre ++ post a) (⟨4,noneB⟩ :: suf) (d + 1) ho.2 (by rw [h];simp [post]) (by rw [List.length_append];exact h1) (by omega)
  have hc:l[(pre ++ post a).length + (post b).length]? = some ⟨4,noneB⟩:=by
   rw [h,show pre ++ (post (.or a b) ++ suf) = (pre ++ post a ++ post b) ++ (⟨4,noneB⟩ :: suf) by simp [post],← List.length_append]
   simp
  show depthN l (pre.length + (post a ++ (post b ++ [(⟨4,noneB⟩:Cel)])).length) = _
  rw [show pre.length + (post a ++ (post b ++ [(⟨4,noneB⟩:Cel)])).length = (pre ++ post a).length + (post b).length + 1 by simp;omega,depthN,h2,hc]
  have:¬ d + 1 + 1 < 2:=by omega
  simp [badC,wants,this]
  omega
 | .star a,l,pre,suf,d,ho,h,hd,h0 => by
  have h1:=depth_post a l pre (⟨5,noneB⟩ :: suf) d ho (by rw [h];simp [post]) hd h0
  have hc:l[pre.length + (post a).length]? = some ⟨5,noneB⟩:=by
   rw [h,show pre ++ (post (.star a) ++ suf) = (pre ++ post a) ++ (⟨5,noneB⟩ :: suf) by simp [post],← List.length_append]
   simp
  show depthN l (pre.length + (post a ++ [(⟨5,noneB⟩:Cel)]).length) = _
  rw [show pre.length + (post a ++ [(⟨5,noneB⟩:Cel)]).length = pre.length + (post a).length + 1 by simp;omega,depthN,h1,hc]
  have:¬ d + 1 < 1:=by omega
  simp [badC,wants,this]
 | .plus a,l,pre,suf,d,ho,h,hd,h0 => by
  have h1:=depth_post a l pre (⟨6,noneB⟩ :: suf) d ho (by rw [h];simp [post]) hd h0
  have hc:l[pre.length + (post a).length]? = some ⟨6,noneB⟩:=by
   rw [h,show pre ++ (post (.plus a) ++ suf) = (pre ++ post a) ++ (⟨6,noneB⟩ :: suf) by simp [post],← List.length_append]
   simp
  show depthN l (pre.length + (post a ++ [(⟨6,noneB⟩:Cel)]).length) = _
  rw [show pre.length + (post a ++ [(⟨6,noneB⟩:Cel)]).length = pre.length + (post a).length + 1 by simp;omega,depthN,h1,hc]
  have:¬ d + 1 < 1:=by omega
  simp [badC,wants,this]
 | .opt a,l,pre,suf,d,ho,h,hd,h0 => by
  have h1:=depth_post a l pre (⟨7,noneB⟩ :: suf) d ho (by rw [h];simp [post]) hd h0
  have hc:l[pre.length + (post a).length]? = some ⟨7,noneB⟩:=by
   rw [h,show pre ++ (post (.opt a) ++ suf) = (pre ++ post a) ++ (⟨7,noneB⟩ :: suf) by simp [post],← List.length_append]
   simp
  show depthN l (pre.length + (post a ++ [(⟨7,noneB⟩:Cel)]).length) = _
  rw [show pre.length + (post a ++ [(⟨7,noneB⟩:Cel)]).length = pre.length + (post a).length + 1 by simp;omega,depthN,h1,hc]
  have:¬ d + 1 < 1:=by omega
  simp [badC,wants,this]
theorem right_post {t:Rx} (ho:t.ok) (hl:(post t).length ≤ 60):rightB (post t) = true:=by
 have h:=depth_post t (post t) [] [] 0 ho (by simp) rfl (by omega)
 simp only [List.length_nil,Nat.zero_add] at h
 have:=post_pos t
 simp [rightB,h,hl]
 omega
end Go.Proofs.YtbpnioehmohbcaaGreat
namespace Go.Proofs.YtbpnioehmohbcaaGreat
abbrev Txt:=List UInt8
def leftA (c:UInt8):Bool:=[46,42,43,63,40,41,91,93,124,47].contains c
def leftC (c:UInt8):Bool:=[91,93,94,45,47].contains c
def escD (c:UInt8):Bool:=[46,42,43,63,40,41,91,93,124,92,47,45,94].contains c
def hexF (c:UInt8):Option Nat:=
 if 48 ≤ c ∧ c ≤ 57 then some (c.toNat - 48) else if 97 ≤ c ∧ c ≤ 102 then some (c.toNat - 87) else if 65 ≤ c ∧ c ≤ 70 then some (c.toNat - 55) else none
def escF:Txt → Option (Nat × Txt)
 | [] => none
 | d :: r =>
  if d = 110 then some (10,r) else if d = 116 then some (9,r) else if d = 114 then some (13,r)
  else if d = 120 then
   match r with
   | x :: y :: q => match hexF x,hexF y with
    | some a,some b => some (16 * a + b,q)
    | _,_ => none
   | _ => none
  else if escD d then some (d.toNat,r) else none
def signF (left:UInt8 → Bool):Txt → Option (Nat × Txt)
 | [] => none
 | c :: r => if c < 32 ∨ 126 < c then none else if c = 92 then escF r else if left c then none else some (c.toNat,r)
theorem escF_ext {s:Txt} {b:Nat} {q:Txt} (r:Txt) (h:escF s = some (b,q)):escF (s ++ r) = some (b,q ++ r):=by
 cases s with
 | nil => cases h
 | cons d s =>
  simp only [List.cons_append,escF] at h ⊢
  split
  · rename_i h1;rw [if_pos h1] at h;injection h with h;injection h with h2 h3;subst h2 h3;rfl
  rename_i h1;rw [if_neg h1] at h
  split
  · rename_i h1;rw [if_pos h1] at h;injection h with h;injection h with h2 h3;subst h2 h3;rfl
  rename_i h1;rw [if_neg h1] at h
  split
  · rename_i h1;rw [if_pos h1] at h;injection h with h;injection h with h2 h3;subst h2 h3;rfl
  rename_i h1;rw [if_neg h1] at h
  split
  · rename_i h1;rw [if_pos h1] at h
    match s,h with
    | x :: y :: z,h =>
     simp only [List.cons_append] at h ⊢
     split at h
     · rename_i a b' ha hb
       injection h with h;injection h with h2 h3;subst h2 h3
       first | rfl | rw [ha,hb]
     · cases h
  rename_i h1;rw [if_neg h1] at h
  split
  · rename_i h1;rw [if_pos h1] at h;injection h with h;injection h with h2 h3;subst h2 h3;rfl
  · rename_i h1;rw [if_neg h1] at h;cases h
theorem escF_lt {s:Txt} {b:Nat} {q:Txt} (h:escF s = some (b,q)):q.length < s.length:=by
 cases s with
 | nil => cases h
 | cons d s =>
  simp only [escF] at h
  split at h
  · injection h with h;injection h with h2 h3;subst h3;simp
  split at h
  · injection h with h;injection h with h2 h3;subst h3;simp
  split at h
  · injection h with h;injection h with h2 h3;subst h3;simp
  split at h
  · match s,h with
    | x :: y :: z,h =>
     simp only at h
     split at h
     · injection h with h;injection h with h2 h3;subst h3;simp;omega
     · cases h
  split at h
  · injection h with h;injection h with h2 h3;subst h3;simp
  · cases h
theorem signF_lt {left:UInt8 → Bool} {s:Txt} {b:Nat} {q:Txt} (h:signF left s = some (b,q)):q.length < s.length:=by
 cases s with
 | nil => cases h
 | cons c s =>
  simp only [signF] at h
  split at h
  · cases h
  split at h
  · have:=escF_lt h;simp;omega
  split at h
  · cases h
  · injection h with h;injection h with h2 h3;subst h3;simp
def tellA (c:UInt8):Bool:=leftA c || c == 92
def tellC (c:UInt8):Bool:=leftC c || c == 92
end Go.Proofs.YtbpnioehmohbcaaGreat
