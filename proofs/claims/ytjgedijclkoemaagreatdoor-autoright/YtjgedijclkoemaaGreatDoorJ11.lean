/- What the five laws of layer 17 share, part 11: no statement of its own. -/
import Derived.Test.YtjgedijclkoemaaGreatDoorJ10
import Derived.BigRegion
import Derived.ChangeSlices
import Derived.Deep.DeepHandedRow
import Derived.Deep.DrawnRows
import Derived.Deep.OwnRows
import Derived.Deep.Slices
import Derived.Laws.BytesArg
import Derived.Laws.EntriesVeiled
import Derived.Lib.IndexLaws
import Derived.Lib.LaidTab
import Derived.Lib.OthersKept
import Derived.Lib.QuietBelow
import Derived.Lib.UnsafeStr
import Derived.MakeChecks
import Derived.Maps.AppendAt
import Derived.Maps.OwnSet
import Derived.OwnWalk
import Derived.Shelf.Spec.TrailingZeros
import Derived.SizedLaws
import Derived.WalkMore
import Derived.WideKeyArr2
namespace Go.Proofs.YtjgedijclkoemaaGreatDoor
open Go.ChangeShapes Go.WideShapes Go.ChangeAt Go.RowKit Go.Sort Go.Maps Go.Lib
theorem Kept.of_grown {w w':World} {r:Option Nat} (h:w.grownBy w' r):Kept (fun k=>r=some k) w w':=by
 obtain ⟨h1,h2,h3,h4,h5⟩:=h;exact ⟨by assumption,by assumption,by assumption,by assumption,fun k hk hn=>h5 k hk (fun e=>hn (by first | exact e | exact e.symm))⟩
theorem a0Y {F:Nat→Prop} {w w':World} {base size n:Nat} {e:TypeId} {v:Value} {xs:List Value} (h:w.ownsRow base e size v n xs) (hk:Kept F w w') (ho:∀ k,v.ownBlock=some k→¬ F k):w'.ownsRow base e size v n xs:=
 y_ h fun k e=>hk.block k (h.lt k e).2 (ho k e)
theorem g_ {w w':World} {b:Nat} {x:Obj} (h:w.heap[b]?=some x) (hb:Below w.heap.size w w'):w'.heap[b]?=some x:=(hb.block b (u_ h)).trans h
theorem p_ {w:World} {B n size:Nat} {e:TypeId} {v:Value} {xs:List Value} (h:w.ownsRow B e size v n xs):∃ a c,v=.slice a n c:=by
 rcases h.2 with ⟨rfl,h0⟩ | ⟨g,cap,cur,rfl,_⟩
 · exact ⟨none,0,by rw [h0]⟩
 · exact ⟨_,_,rfl⟩
theorem a2p {w:World} {B n size:Nat} {e:TypeId} {v:Value} {xs:List Value} (h:w.ownsRow B e size v n xs) (hn:0<n):∃ g cap,v=.slice (some ⟨g,0,none⟩) n cap∧n≤cap:=by
 rcases h.2 with ⟨rfl,h0⟩ | ⟨g,cap,cur,rfl,_,_,hc,_⟩
 · omega
 · exact ⟨g,cap,rfl,hc⟩
theorem a0z {w:World} {pb o size n B:Nat} {e:TypeId} {v x:Value} {xs:List Value} (h:w.ownsRow B e size v n xs) (hn:v.ownBlock≠some pb):(w.setCell ⟨pb,o,none⟩ x).ownsRow B e size v n xs:=
 y_ h fun k hk=>Below.heap_setCell w ⟨pb,o,none⟩ x k (fun e=>hn (by rw [hk,e]))
theorem a1i {w:World} {b t:Nat} {x y z:Value} (h:w.heap[b]?=some (.cells #[x,y,z] t (0,0))):(w.cell? ⟨b,0,none⟩=some x∧w.frozen? ⟨b,0,none⟩=false)∧(w.cell? ⟨b,1,none⟩=some y∧w.frozen? ⟨b,1,none⟩=false)∧(w.cell? ⟨b,2,none⟩=some z∧w.frozen? ⟨b,2,none⟩=false):=by
 refine ⟨⟨?_,?_⟩,⟨?_,?_⟩,⟨?_,?_⟩⟩ <;> simp [World.cell?,World.frozen?,h]
theorem c1o {w:World} {b t:Nat} {x y z v:Value} (h:w.heap[b]?=some (.cells #[x,y,z] t (0,0))):(w.setCell ⟨b,0,none⟩ v).heap[b]?=some (.cells #[v,y,z] t (0,0)):=by
 exact heap_setCell h
theorem c1n {w:World} {b t:Nat} {x y z v:Value} (h:w.heap[b]?=some (.cells #[x,y,z] t (0,0))):(w.setCell ⟨b,1,none⟩ v).heap[b]?=some (.cells #[x,v,z] t (0,0)):=by
 exact heap_setCell h
theorem c1m {w:World} {b t:Nat} {x y z v:Value} (h:w.heap[b]?=some (.cells #[x,y,z] t (0,0))):(w.setCell ⟨b,2,none⟩ v).heap[b]?=some (.cells #[x,y,v] t (0,0)):=by
 exact heap_setCell h
theorem a6a {u:World} {b t:Nat} {x y z:Value} (h:u.heap[b]?=some (.cells #[x,y,z] t (0,0))) (v0 v1 v2:Value):(u.cell? ⟨b,0,none⟩=some x∧u.frozen? ⟨b,0,none⟩=false)∧((u.setCell ⟨b,0,none⟩ v0).cell? ⟨b,1,none⟩=some y∧(u.setCell ⟨b,0,none⟩ v0).frozen? ⟨b,1,none⟩=false)∧(((u.setCell ⟨b,0,none⟩ v0).setCell ⟨b,1,none⟩ v1).cell? ⟨b,2,none⟩=some z∧((u.setCell ⟨b,0,none⟩ v0).setCell ⟨b,1,none⟩ v1).frozen? ⟨b,2,none⟩=false)∧(((u.setCell ⟨b,0,none⟩ v0).setCell ⟨b,1,none⟩ v1).setCell ⟨b,2,none⟩ v2).cell? ⟨b,0,none⟩=some v0∧(((u.setCell ⟨b,0,none⟩ v0).setCell ⟨b,1,none⟩ v1).setCell ⟨b,2,none⟩ v2).cell? ⟨b,1,none⟩=some v1∧(((u.setCell ⟨b,0,none⟩ v0).setCell ⟨b,1,none⟩ v1).setCell ⟨b,2,none⟩ v2).cell? ⟨b,2,none⟩=some v2:=by
 have s1:=c1o (v:=v0) h;have s2:=c1n (v:=v1) s1;have s3:=c1m (v:=v2) s2;exact ⟨(a1i h).1,(a1i s1).2.1,(a1i s2).2.2,(a1i s3).1.1,(a1i s3).2.1.1,(a1i s3).2.2.1⟩
theorem a7V (s:ByteArray) (a b:Nat):(s.extract a b).data.toList=(s.data.toList.drop a).take (b - a):=by
 rw [ByteArray.data_extract,Array.toList_extract,List.extract_eq_take_drop]
theorem b0W (s:ByteArray):e_ s.data.toList=s:=by
 cases s
 simp [e_]
theorem a5Q (s:Txt) (a n:Nat):(e_ s).extract a (a+n)=e_ ((s.drop a).take n):=by
 have h:=a7V (e_ s) a (a+n);rw [Nat.add_sub_cancel_left] at h;rw [← b0W ((e_ s).extract a (a+n)),h];rfl
end Go.Proofs.YtjgedijclkoemaaGreatDoor
namespace Go.Proofs.YtjgedijclkoemaaGreatDoor
def a1d (c:Nat):Bool:=c == 95 || (decide (65≤c) && decide (c≤90)) || (decide (97≤c) && decide (c≤122))
def a4s (c:Nat):Bool:=decide (48≤c) && decide (c≤57)
def b1K (c:Nat):Bool:=c == 9 || c == 10 || c == 13 || c == 32
def b1O (c:Nat):Bool:=c == 58 || c == 59 || c == 124 || c == 37
def skL:Bool→Txt→Nat
 | _,[]=>0
 | true,c :: r=>1+skL (c.toNat != 10) r
 | false,c :: r=>if c.toNat=35 then 1+skL true r else if b1K c.toNat then 1+skL false r else 0
def a2g:Txt→Nat
 | []=>0
 | c :: r=>if a1d c.toNat || a4s c.toNat then 1+a2g r else 0
def rgL:Bool→Txt→Option Nat
 | _,[]=>none
 | tk,c :: r=>if c.toNat=10 then none else if c.toNat=47∧tk=false then some 1 else (rgL (c.toNat == 92 && !tk) r).map (·+1)
def a8o:Txt→Option Nat
 | []=>none
 | c :: r=>if b1O c.toNat then some 1 else if a1d c.toNat then (if 16<a2g (c :: r) then none else some (a2g (c :: r))) else if c.toNat=47 then (rgL false r).map (·+1) else none
abbrev Wd:=Nat×Nat×Txt
def a5m (c:Nat):Nat:=if a1d c then 1 else if c=47 then 2 else 3
def b5j (T:Txt) (a n:Nat):Wd:=(a5m ((T.drop a).headD 0).toNat,a,if ((T.drop a).headD 0).toNat=47 then ((T.drop (a+1)).take (n - 2)) else (T.drop a).take n)
def a4G (T:Txt):Nat→Nat→List Wd→List Wd×Nat×Int
 | 0,_,l=>(l,0,0)
 | f+1,a,l=>if T.length≤a then (l,0,0) else match a8o (T.drop a) with
  | none=>([],a,1)
  | some n=>a4G T f (a+n+skL false (T.drop (a+n))) (l++[b5j T a n])
def a0w (T:Txt):List Wd×Nat×Int:=if 4000<T.length then ([],0,3) else a4G T T.length (skL false T) []
theorem b2r:∀ (b:Bool) (u:Txt),skL b u≤u.length
 | _,[]=>Nat.zero_le _
 | true,c :: r=>by have:=b2r (c.toNat != 10) r;rw [skL,List.length_cons];omega
 | false,c :: r=>by
  have h1:=b2r true r;have h2:=b2r false r;rw [skL,List.length_cons];split
  · omega
  · split <;> omega
theorem a6i:∀ u:Txt,a2g u≤u.length
 | []=>Nat.zero_le _
 | c :: r=>by
  have:=a6i r
  rw [a2g,List.length_cons];split <;> omega
theorem b2G:∀ (tk:Bool) (u:Txt) (n:Nat),rgL tk u=some n→0<n∧n≤u.length
 | _,[],n,h=>by cases h
 | tk,c :: r,n,h=>by
  rw [rgL] at h;split at h
  · cases h
  · split at h
    · injection h with h
      rw [List.length_cons];omega
    · cases e:rgL (c.toNat == 92 && !tk) r with
      | none=>rw [e] at h;cases h
      | some m =>
       rw [e] at h;have h1:=b2G _ r m e;have h:m+1=n:=by injection h
       rw [List.length_cons];omega
theorem a8W {u:Txt} {n:Nat} (h:a8o u=some n):0<n∧n≤u.length:=by
 cases u with
 | nil=>cases h
 | cons c r =>
  rw [a8o] at h;split at h
  · injection h with h
    rw [List.length_cons];omega
  · split at h
    · rename_i h1
      split at h
      · cases h
      · injection h with h
        have h2:=a6i (c :: r);have h3:0<a2g (c :: r):=by rw [a2g,h1];simp;omega
        omega
    · split at h
      · cases e:rgL false r with
        | none=>rw [e] at h;cases h
        | some m =>
         rw [e] at h;have h1:=b2G _ r m e;have h:m+1=n:=by injection h
         rw [List.length_cons];omega
      · cases h
theorem b7e {u:Txt} {n:Nat} (h:a8o u=some n) (h47:(u.headD 0).toNat=47):2≤n:=by
 cases u with
 | nil=>cases h
 | cons c r =>
  have h47:c.toNat=47:=h47;rw [a8o,h47] at h;rw [if_neg (by decide),if_neg (by decide),if_pos rfl] at h;cases e:rgL false r with
  | none=>rw [e] at h;cases h
  | some m =>
   rw [e] at h;have h1:=b2G _ r m e;have h:m+1=n:=by injection h
   omega
def WrdI (T:Txt) (a:Nat) (l:List Wd):Prop:=∃ f,T.length≤a+f∧a4G T f a l=a4G T T.length (skL false T) []
theorem WrdI.start (T:Txt):WrdI T (skL false T) []:=⟨T.length,by omega,rfl⟩
theorem WrdI.fin {T:Txt} {a:Nat} {l:List Wd} (h:WrdI T a l) (ha:T.length≤a):a4G T T.length (skL false T) []=(l,0,0):=by
 obtain ⟨f,-,h2⟩:=h;rw [← h2];cases f with
 | zero=>rfl
 | succ f=>rw [a4G,if_pos ha]
theorem WrdI.stop {T:Txt} {a:Nat} {l:List Wd} (h:WrdI T a l) (ha:a<T.length) (he:a8o (T.drop a)=none):a4G T T.length (skL false T) []=([],a,1):=by
 obtain ⟨f,h1,h2⟩:=h;rw [← h2];cases f with
 | zero=>omega
 | succ f=>rw [a4G,if_neg (by omega),he]
theorem WrdI.next {T:Txt} {a n:Nat} {l:List Wd} (h:WrdI T a l) (ha:a<T.length) (he:a8o (T.drop a)=some n):WrdI T (a+n+skL false (T.drop (a+n))) (l++[b5j T a n]):=by
 obtain ⟨f,h1,h2⟩:=h;cases f with
 | zero=>omega
 | succ f =>
  have h3:=a8W he;refine ⟨f,by omega,?_⟩;rw [← h2,a4G,if_neg (by omega),he]
end Go.Proofs.YtjgedijclkoemaaGreatDoor
namespace Go.Proofs.YtjgedijclkoemaaGreatDoor
open Go.RowKit Go.Maps
theorem a1I {b:Nat} (h:b=95∨(65≤b∧b≤90)∨(97≤b∧b≤122)):a1d b=true:=by
 unfold a1d;rw [Bool.or_eq_true,Bool.or_eq_true,Bool.and_eq_true,Bool.and_eq_true,beq_iff_eq,decide_eq_true_iff,decide_eq_true_iff,decide_eq_true_iff,decide_eq_true_iff];omega
theorem a1Z {b:Nat} (h:¬ (b=95∨(65≤b∧b≤90)∨(97≤b∧b≤122))):a1d b=false:=by
 cases e:a1d b with
 | false=>rfl
 | true =>
  exfalso
  unfold a1d at e;rw [Bool.or_eq_true,Bool.or_eq_true,Bool.and_eq_true,Bool.and_eq_true,beq_iff_eq,decide_eq_true_iff,decide_eq_true_iff,decide_eq_true_iff,decide_eq_true_iff] at e;omega
theorem a3P {s:Txt} {p:Nat} (h:p<s.length):s.drop p=s.getD p 0 :: s.drop (p+1):=by
 rw [List.drop_eq_getElem_cons h,List.getD_eq_getElem?_getD,List.getElem?_eq_getElem h];rfl
theorem a2L {s:Txt} {p:Nat} (h:p<s.length) (h':p<(e_ s).size):(((e_ s)[p]'h').toNat:Int)=((s.getD p 0).toNat:Int):=by
 have hgd:s.getD p 0=s[p]'h:=by rw [List.getD_eq_getElem?_getD,List.getElem?_eq_getElem h];rfl
 rw [hgd];exact congrArg (fun c:UInt8=>(c.toNat:Int)) (b2j s p h' h)
theorem b7v {c:Nat} (h:c=9∨c=10∨c=13∨c=32):b1K c=true:=by
 rcases h with rfl | rfl | rfl | rfl <;> decide
theorem c0A {c:Nat} (h:¬ (c=9∨c=10∨c=13∨c=32)):b1K c=false:=by
 cases e:b1K c with
 | false=>rfl
 | true =>
  exfalso
  unfold b1K at e;rw [Bool.or_eq_true,Bool.or_eq_true,Bool.or_eq_true,beq_iff_eq,beq_iff_eq,beq_iff_eq,beq_iff_eq] at e;omega
theorem b5D {c:Nat} (h:c=58∨c=59∨c=124∨c=37):b1O c=true:=by
 rcases h with rfl | rfl | rfl | rfl <;> decide
theorem b8M {c:Nat} (h:¬ (c=58∨c=59∨c=124∨c=37)):b1O c=false:=by
 cases e:b1O c with
 | false=>rfl
 | true =>
  exfalso
  unfold b1O at e;rw [Bool.or_eq_true,Bool.or_eq_true,Bool.or_eq_true,beq_iff_eq,beq_iff_eq,beq_iff_eq,beq_iff_eq] at e;omega
theorem b7g (c:Nat):a4s c=true↔48≤c∧c≤57:=by
 unfold a4s;rw [Bool.and_eq_true,decide_eq_true_iff,decide_eq_true_iff]
def nlL:Txt→Nat
 | []=>0
 | c :: r=>if c.toNat=10 then 0 else 1+nlL r
def a3r:Txt→Nat
 | []=>0
 | c :: r=>if b1K c.toNat then 1 else if c.toNat=35 then 1+nlL r else 0
def nmC:Txt→Nat
 | []=>0
 | c :: r=>if a1d c.toNat then (if 16<a2g (c :: r) then 0 else a2g (c :: r)) else 0
def rlC:Txt→Nat
 | []=>0
 | c :: r=>if c.toNat=47 then (match rgL false r with | none=>0 | some n=>n+1) else 0
def sgC:Txt→Nat
 | []=>0
 | c :: _=>if b1O c.toNat then 1 else 0
theorem a9X:∀ u:Txt,nlL u≤u.length
 | []=>Nat.zero_le _
 | c :: r=>by
  have:=a9X r
  rw [nlL,List.length_cons];split <;> omega
theorem a9y:∀ r:Txt,skL true r=nlL r+skL false (r.drop (nlL r))
 | []=>rfl
 | c :: r=>by
  rw [skL,nlL];by_cases h:c.toNat=10
  · rw [if_pos h,List.drop_zero,skL,h]
    rw [if_neg (by decide),if_pos (by decide)]
    show 1+skL false r=0+(1+skL false r)
    omega
  · rw [if_neg h,show (c.toNat != 10)=true from bne_iff_ne.2 h,a9y r,show 1+nlL r=nlL r+1 by omega,List.drop_succ_cons]
    omega
theorem b8J:∀ u:Txt,skL false u=a3r u+skL false (u.drop (a3r u))
 | []=>rfl
 | c :: r=>by
  rw [a3r];by_cases h:b1K c.toNat=true
  · rw [if_pos h,skL,h,if_pos rfl,if_neg (by intro h9;rw [h9] at h;cases h)]
    rfl
  · have hf:b1K c.toNat=false:=by cases e:b1K c.toNat with | false=>rfl | true=>exact absurd e h
    by_cases h35:c.toNat=35
    · rw [if_neg h,if_pos h35,skL,if_pos h35,a9y r,show 1+nlL r=nlL r+1 by omega,List.drop_succ_cons]
      omega
    · rw [if_neg h,if_neg h35,Nat.zero_add,List.drop_zero]
theorem b5B {u:Txt} (h:a3r u=0):skL false u=0:=by
 cases u with
 | nil=>rfl
 | cons c r =>
  rw [a3r] at h;rw [skL];by_cases h1:b1K c.toNat=true
  · rw [if_pos h1] at h;omega
  · rw [if_neg h1] at h
    by_cases h35:c.toNat=35
    · rw [if_pos h35] at h;omega
    · rw [if_neg h35,if_neg h1]
theorem c0B (u:Txt):a3r u≤u.length:=by
 cases u with
 | nil=>exact Nat.zero_le _
 | cons c r =>
  have:=a9X r
  rw [a3r,List.length_cons];split
  · omega
  · split <;> omega
set_option maxRecDepth 20000 in
theorem b9M (b:Nat) (w:World) (hb:b<256):Calls Tryz.prog 166 #[.int .u8 (b:Int)] w fun e w'=>e=.returned (.bool (a1d b))∧w'=w:=by
 rcases (show b=95∨(65≤b∧b≤90)∨(97≤b∧b≤122)∨b<65∨(90<b∧b<97∧b≠95)∨122<b by omega) with h | h | h | h | h | h
 · rw [a1I (by omega)]
   subst h;go_enter Tryz.func166,Tryz.ntmps166
   go_wp2;go_ret;exact ⟨by simp,rfl⟩
 · rw [a1I (by omega)]
   have h0:¬ (97:Int)≤(b:Int):=by omega
   have h2:(65:Int)≤(b:Int):=by omega
   have h3:(b:Int)≤90:=by omega
   go_enter Tryz.func166,Tryz.ntmps166
   go_wp2;go_ret;exact ⟨by simp,rfl⟩
 · rw [a1I (by omega)]
   have h4:(97:Int)≤(b:Int):=by omega
   have h5:(b:Int)≤122:=by omega
   go_enter Tryz.func166,Tryz.ntmps166
   go_wp2;go_ret;exact ⟨by simp,rfl⟩
 · rw [a1Z (by omega)]
   have h1:((b:Int) == 95)=false:=by rw [beq_eq_false_iff_ne];omega
   have h2:¬ (65:Int)≤(b:Int):=by omega
   have h4:¬ (97:Int)≤(b:Int):=by omega
   go_enter Tryz.func166,Tryz.ntmps166
   go_wp2;go_ret;exact ⟨by simp,rfl⟩
 · rw [a1Z (by omega)]
   have h1:((b:Int) == 95)=false:=by rw [beq_eq_false_iff_ne];omega
   have h2:(65:Int)≤(b:Int):=by omega
   have h3:¬ (b:Int)≤90:=by omega
   have h4:¬ (97:Int)≤(b:Int):=by omega
   go_enter Tryz.func166,Tryz.ntmps166
   go_wp2;go_ret;exact ⟨by simp,rfl⟩
 · rw [a1Z (by omega)]
   have h1:((b:Int) == 95)=false:=by rw [beq_eq_false_iff_ne];omega
   have h2:(65:Int)≤(b:Int):=by omega
   have h3:¬ (b:Int)≤90:=by omega
   have h4:(97:Int)≤(b:Int):=by omega
   have h5:¬ (b:Int)≤122:=by omega
   go_enter Tryz.func166,Tryz.ntmps166
   go_wp2;go_ret;exact ⟨by simp,rfl⟩
set_option maxRecDepth 20000 in
theorem c2G (b:Nat) (w:World) (hb:b<256):Calls Tryz.prog 167 #[.int .u8 (b:Int)] w fun e w'=>e=.returned (.bool (a4s b))∧w'=w:=by
 rcases (show b<48∨(48≤b∧b≤57)∨57<b by omega) with h | h | h
 · have e1:a4s b=false:=by unfold a4s;rw [decide_eq_false (by omega)];rfl
   rw [e1];have h1:¬ (48:Int)≤(b:Int):=by omega
   go_enter Tryz.func167,Tryz.ntmps167
   go_wp2;go_ret;exact ⟨by simp,rfl⟩
 · rw [(b7g b).2 h]
   have h1:(48:Int)≤(b:Int):=by omega
   have h2:(b:Int)≤57:=by omega
   go_enter Tryz.func167,Tryz.ntmps167
   go_wp2;go_ret;exact ⟨by simp,rfl⟩
 · have e1:a4s b=false:=by unfold a4s;rw [decide_eq_false (show ¬ b≤57 by omega),Bool.and_false]
   rw [e1];have h1:(48:Int)≤(b:Int):=by omega
   have h2:¬ (b:Int)≤57:=by omega
   go_enter Tryz.func167,Tryz.ntmps167
   go_wp2;go_ret;exact ⟨by simp,rfl⟩
set_option maxRecDepth 20000 in
theorem c4a (S:ByteArray) (z:Int) (w:World):(callFunc 203 #[.string S,.int .u8 z]).run Tryz.prog w=.ok (.value (.int .i64 (Lib.indexByte S.data.toList z.toNat.toUInt8))) w:=by
 rw [run_callFunc_indexByte Tryz.func203 (by kernel_rfl) (by kernel_rfl) (by kernel_rfl) (by kernel_rfl),Lib.run_indexByteString];rfl
set_option maxRecDepth 20000 in
theorem c1W (S:ByteArray) (z:Int) (w:World):Calls Tryz.prog 191 #[.string S,.int .u8 z] w fun e w'=>e=.returned (.int .i64 (Lib.indexByte S.data.toList z.toNat.toUInt8))∧w'=w:=by
 have hx:=c4a S z;go_enter Tryz.func191,Tryz.ntmps191
 go_wp2;go_ret;exact ⟨rfl,rfl⟩
set_option maxRecDepth 20000 in
theorem ixC (S:ByteArray) (z:Int) (w:World):Calls Tryz.prog 165 #[.string S,.int .u8 z] w fun e w'=>e=.returned (.int .i64 (Lib.indexByte S.data.toList z.toNat.toUInt8))∧w'=w:=by
 have G:=hid (c1W S z);go_enter Tryz.func165,Tryz.ntmps165
 go_wp2_with (go_at_call 191;refine (G.out _).mono ?_;rintro e w1 ⟨rfl,hw⟩;subst w1)
 go_ret;exact ⟨rfl,rfl⟩
theorem a9t (c:UInt8) (r:Txt) (h':0<(e_ (c :: r)).size):(((e_ (c :: r))[0]'h').toNat:Int)=(c.toNat:Int):=by
 have:=a2L (s:=c :: r) (p:=0) (by simp) h'
 exact this
set_option maxRecDepth 20000 in
set_option maxHeartbeats 1000000 in
theorem c3y (c:UInt8) (r:Txt) (w:World) (hs:(c :: r).length≤1000000):Calls Tryz.prog 122 #[.string (e_ (c :: r))] w fun e w'=>e=.returned (.int .i64 (sgC (c :: r):Int))∧w'=w:=by
 have hsz:=o_ (c :: r);have h0:0<(e_ (c :: r)).size:=by rw [hsz,List.length_cons];omega
 have key:=a9t c r h0;by_cases hsg:c.toNat=58∨c.toNat=59∨c.toNat=124∨c.toNat=37
 · have e1:sgC (c :: r)=1:=by rw [sgC,b5D hsg,if_pos rfl]
   rw [e1];clear e1;generalize e_ (c :: r)=S at *;generalize (c :: r).length=n at *;generalize c.toNat=cn at *;rcases hsg with h9 | h9 | h9 | h9
   all_goals
    subst h9;go_enter Tryz.func122,Tryz.ntmps122
    go_wp2;go_ret;exact ⟨rfl,rfl⟩
 · have e1:sgC (c :: r)=0:=by rw [sgC,b8M hsg,if_neg (by decide)]
   rw [e1];clear e1;generalize e_ (c :: r)=S at *;generalize (c :: r).length=n at *;generalize c.toNat=cn at *;have z1:((cn:Int) == 58)=false:=by rw [beq_eq_false_iff_ne];omega
   have z2:((cn:Int) == 59)=false:=by rw [beq_eq_false_iff_ne];omega
   have z3:((cn:Int) == 124)=false:=by rw [beq_eq_false_iff_ne];omega
   have z4:((cn:Int) == 37)=false:=by rw [beq_eq_false_iff_ne];omega
   go_enter Tryz.func122,Tryz.ntmps122
   go_wp2;go_ret;exact ⟨rfl,rfl⟩
theorem c1V:∀ u:Txt,Lib.indexByte u 10=if nlL u<u.length then (nlL u:Int) else -1
 | []=>rfl
 | c :: r=>by
  rw [Lib.indexByte,nlL,c1V r];have hle:=a9X r;by_cases h:c.toNat=10
  · have hc:c=10:=UInt8.toNat_inj.1 h
    rw [if_pos h,hc,if_pos (by decide),if_pos (by rw [List.length_cons];omega)];rfl
  · have hc:(c == 10)=false:=by rw [beq_eq_false_iff_ne];intro h9;rw [h9] at h;exact h rfl
    rw [if_neg h,hc,if_neg (by decide)];by_cases h2:nlL r<r.length
    · rw [if_pos h2,if_neg (by rw [beq_iff_eq];omega),if_pos (by rw [List.length_cons];omega)]
      omega
    · rw [if_neg h2,if_pos (by decide),if_neg (by rw [List.length_cons];omega)]
set_option maxRecDepth 20000 in
set_option maxHeartbeats 1000000 in
theorem c2W (c:UInt8) (r:Txt) (w:World) (hs:(c :: r).length≤1000000):Calls Tryz.prog 119 #[.string (e_ (c :: r))] w fun e w'=>e=.returned (.int .i64 (a3r (c :: r):Int))∧w'=w:=by
 have hsz:=o_ (c :: r);have h0:0<(e_ (c :: r)).size:=by rw [hsz,List.length_cons];omega
 have key:=a9t c r h0;by_cases hsg:c.toNat=9∨c.toNat=10∨c.toNat=13∨c.toNat=32
 · have e1:a3r (c :: r)=1:=by rw [a3r,b7v hsg,if_pos rfl]
   rw [e1];clear e1;generalize e_ (c :: r)=S at *;generalize (c :: r).length=n at *;generalize c.toNat=cn at *;rcases hsg with h9 | h9 | h9 | h9
   all_goals
    subst h9;go_enter Tryz.func119,Tryz.ntmps119
    go_wp2;go_ret;exact ⟨rfl,rfl⟩
 have hbn:=c0A hsg;by_cases h35:c.toNat=35
 · have e1:a3r (c :: r)=1+nlL r:=by rw [a3r,hbn,if_neg (by decide),if_pos h35]
   have e2:nlL (c :: r)=1+nlL r:=by rw [nlL,if_neg (by omega)]
   have hle:=a9X (c :: r);rw [e1,← e2];have GI:=hid (fun u=>ixC (e_ (c :: r)) 10 u);rw [show (e_ (c :: r)).data.toList=c :: r from rfl,show ((10:Int).toNat.toUInt8)=10 from rfl,c1V] at GI;clear e1 e2 hbn hsg;generalize nlL (c :: r)=m at *;generalize e_ (c :: r)=S at *;generalize (c :: r).length=n at *;generalize c.toNat=cn at *;subst h35;by_cases hm:m<n
   · rw [if_pos hm] at GI
     have hmz:(0:Int)≤(m:Int):=by omega
     go_enter Tryz.func119,Tryz.ntmps119
     go_wp2_with (go_at_call 165;refine (GI.out w).mono ?_;clear GI;rintro e w1 ⟨rfl,hw⟩;subst w1)
     go_ret;exact ⟨rfl,rfl⟩
   · rw [if_neg hm] at GI
     have hmn:m=n:=by omega
     subst hmn;go_enter Tryz.func119,Tryz.ntmps119
     go_wp2_with (go_at_call 165;refine (GI.out w).mono ?_;clear GI;rintro e w1 ⟨rfl,hw⟩;subst w1)
     go_ret;exact ⟨rfl,rfl⟩
 · have e1:a3r (c :: r)=0:=by rw [a3r,hbn,if_neg (by decide),if_neg h35]
   rw [e1];clear e1 hbn;generalize e_ (c :: r)=S at *;generalize (c :: r).length=n at *;generalize c.toNat=cn at *;have z1:((cn:Int) == 9)=false:=by rw [beq_eq_false_iff_ne];omega
   have z2:((cn:Int) == 10)=false:=by rw [beq_eq_false_iff_ne];omega
   have z3:((cn:Int) == 13)=false:=by rw [beq_eq_false_iff_ne];omega
   have z4:((cn:Int) == 32)=false:=by rw [beq_eq_false_iff_ne];omega
   have z5:((cn:Int) == 35)=false:=by rw [beq_eq_false_iff_ne];omega
   go_enter Tryz.func119,Tryz.ntmps119
   go_wp2;go_ret;exact ⟨rfl,rfl⟩
set_option maxRecDepth 20000 in
set_option maxHeartbeats 8000000 in
theorem c3T (s:Txt) (w:World) (h0:0<s.length) (hs:s.length≤1000000):Calls Tryz.prog 120 #[.string (e_ s)] w fun e w'=>e=.returned (.int .i64 (nmC s:Int))∧w'=w:=by
 have hsz:=o_ s;have h0n:0<(e_ s).size:=by omega
 have key:=a2L h0 h0n;have hE:s=s.getD 0 0 :: s.drop 1:=by have:=a3P h0;rwa [List.drop_zero] at this
 have hcb:=(s.getD 0 0).toNat_lt;have GL:=hid (fun (c:Nat) (hc:c<256) (u:World)=>b9M c u hc);have GD:=hid (fun (c:Nat) (hc:c<256) (u:World)=>c2G c u hc);obtain ⟨R,hR⟩:∃ R,Hid (nmC s=R):=⟨_,hid rfl⟩;rw [hR.out];have GL1:=hid (GL.out (s.getD 0 0).toNat hcb w);cases hlt:a1d (s.getD 0 0).toNat with
 | false =>
  rw [hlt] at GL1;have hr:R=0:=by rw [← hR.out,hE,nmC,hlt,if_neg (by decide)]
  subst hr;clear hR hE hlt GL GD;generalize (s.getD 0 0).toNat=c at *;go_enter Tryz.func120,Tryz.ntmps120
  go_wp2_with (go_at_call 166;refine GL1.out.mono ?_;clear GL1;rintro e w2 ⟨rfl,hc2⟩;subst w2)
  go_ret;exact ⟨rfl,rfl⟩
 | true =>
  rw [hlt] at GL1
  have hr:Hid (R=if 16<a2g s then 0 else a2g s):=hid (by
   rw [← hR.out]
   conv=>lhs;rw [hE]
   rw [nmC,hlt,if_pos rfl,← hE])
  have hst:Hid (1+a2g (s.drop 1)=a2g s):=hid (by
   conv=>rhs;rw [hE]
   rw [a2g,hlt,Bool.true_or,if_pos rfl])
  clear hR hE hlt;generalize (s.getD 0 0).toNat=c at *;go_enter Tryz.func120,Tryz.ntmps120
  go_wp2_with (go_at_call 166;refine GL1.out.mono ?_;clear GL1;rintro e w2 ⟨rfl,hc2⟩;subst w2)
  go_loopw [3] (fun x wr=>∃ p:Nat,1≤p∧p≤s.length∧x=.int .i64 (p:Int)∧Hid (p+a2g (s.drop p)=a2g s)∧wr=w) (fun x _=>s.length - (intOf x).toNat)
  case atStart=>exact ⟨1,Nat.le_refl _,by omega,rfl,hst,rfl⟩
  case round =>
   obtain ⟨p,hap,hp,rfl,hI,rfl⟩:=hrel;by_cases hpt:p<s.length
   · have hptz:(p:Int)<(s.length:Int):=by omega
     have hptn:p<(e_ s).size:=by omega
     have key2:=a2L hpt hptn;have hE2:=hid (a3P hpt);have hcb2:=(s.getD p 0).toNat_lt;have GL2:=hid (GL.out (s.getD p 0).toNat hcb2 wr);have GD2:=hid (GD.out (s.getD p 0).toNat hcb2 wr);have hI2:=hI.out;rw [hE2.out,a2g] at hI2;generalize s.getD p 0=c2 at *;cases hl2:a1d c2.toNat with
     | true =>
      rw [hl2] at GL2;have hI3:Hid (p+1+a2g (s.drop (p+1))=a2g s):=hid (by rw [hl2,Bool.true_or,if_pos rfl] at hI2;omega);clear hI2 hE2 hl2 hI GD2 hst;generalize c2.toNat=cn at *;go_wp2_with (go_at_call 166;refine GL2.out.mono ?_;clear GL2;rintro e w2 ⟨rfl,hc2⟩;subst w2)
      go_roundw
      case rel=>exact ⟨p+1,by omega,by omega,by go_num,hI3,by first | rfl | trivial⟩
      case measure=>simp [intOf];omega
     | false =>
      rw [hl2] at GL2;cases hd:a4s c2.toNat with
      | true =>
       rw [hd] at GD2;have hI3:Hid (p+1+a2g (s.drop (p+1))=a2g s):=hid (by rw [hd,Bool.or_true,if_pos rfl] at hI2;omega);clear hI2 hE2 hl2 hI hd hst;generalize c2.toNat=cn at *
       go_wp2_with (first
        | (go_at_call 166;refine GL2.out.mono ?_;clear GL2;rintro e w2 ⟨rfl,hc2⟩;subst w2)
        | (go_at_call 167;refine GD2.out.mono ?_;clear GD2;rintro e w2 ⟨rfl,hc2⟩;subst w2))
       go_roundw
       case rel=>exact ⟨p+1,by omega,by omega,by go_num,hI3,by first | rfl | trivial⟩
       case measure=>simp [intOf];omega
      | false =>
       rw [hd] at GD2;have hI3:Hid (p=a2g s):=hid (by rw [hl2,hd,Bool.or_false,if_neg (by decide)] at hI2;omega);have hr2:Hid (R=if 16<p then 0 else p):=hid (by rw [hr.out,← hI3.out]);clear hI2 hE2 hl2 hI hd hr hI3 hst;generalize c2.toNat=cn at *;by_cases h16:16<p
       · have h16z:(16:Int)<(p:Int):=by omega
         go_wp2_with (first
          | (go_at_call 166;refine GL2.out.mono ?_;clear GL2;rintro e w2 ⟨rfl,hc2⟩;subst w2)
          | (go_at_call 167;refine GD2.out.mono ?_;clear GD2;rintro e w2 ⟨rfl,hc2⟩;subst w2))
         go_ret;exact ⟨by rw [hr2.out,if_pos h16];rfl,rfl⟩
       · have h16z:¬ (16:Int)<(p:Int):=by omega
         go_wp2_with (first
          | (go_at_call 166;refine GL2.out.mono ?_;clear GL2;rintro e w2 ⟨rfl,hc2⟩;subst w2)
          | (go_at_call 167;refine GD2.out.mono ?_;clear GD2;rintro e w2 ⟨rfl,hc2⟩;subst w2))
         go_ret;exact ⟨by rw [hr2.out,if_neg h16];rfl,rfl⟩
   · have hptz:¬ (p:Int)<(s.length:Int):=by omega
     have hI3:p=a2g s:=by have:=hI.out;rw [List.drop_eq_nil_of_le (by omega)] at this;exact this
     have hr2:Hid (R=if 16<p then 0 else p):=hid (by rw [hr.out,← hI3]);clear hr hI3 hI hst;by_cases h16:16<p
     · have h16z:(16:Int)<(p:Int):=by omega
       go_wp2;go_ret;exact ⟨by rw [hr2.out,if_pos h16];rfl,rfl⟩
     · have h16z:¬ (16:Int)<(p:Int):=by omega
       go_wp2;go_ret;exact ⟨by rw [hr2.out,if_neg h16];rfl,rfl⟩
def rlI (tk:Bool) (s:Txt) (p:Nat):Nat:=match rgL tk (s.drop p) with
 | none=>0
 | some n=>p+n
set_option maxRecDepth 20000 in
set_option maxHeartbeats 8000000 in
theorem c3B (s:Txt) (w:World) (h0:0<s.length) (hs:s.length≤1000000):Calls Tryz.prog 121 #[.string (e_ s)] w fun e w'=>e=.returned (.int .i64 (rlC s:Int))∧w'=w:=by
 have hsz:=o_ s;have h0n:0<(e_ s).size:=by omega
 have key:=a2L h0 h0n;have hE:s=s.getD 0 0 :: s.drop 1:=by have:=a3P h0;rwa [List.drop_zero] at this
 have hcb:=(s.getD 0 0).toNat_lt;obtain ⟨R,hR⟩:∃ R,Hid (rlC s=R):=⟨_,hid rfl⟩;rw [hR.out];by_cases h47:(s.getD 0 0).toNat=47
 · have hr:Hid (R=rlI false s 1):=hid (by
    rw [← hR.out]
    conv=>lhs;rw [hE]
    rw [rlC,if_pos h47];unfold rlI;cases e2:rgL false (s.drop 1) with
    | none=>rfl
    | some n=>show n+1=1+n;omega)
   clear hR hE;generalize (s.getD 0 0).toNat=c at *;subst h47;go_enter Tryz.func121,Tryz.ntmps121
   go_wp2;go_loopw [3,4] (fun f x wr=>∃ (p:Nat) (tk:Bool),1≤p∧p≤s.length∧x=.int .i64 (p:Int)∧f=.bool tk∧Hid (R=rlI tk s p)∧wr=w) (fun _ x _=>s.length - (intOf x).toNat)
   case atStart=>exact ⟨1,false,Nat.le_refl _,by omega,rfl,rfl,hr,rfl⟩
   case round =>
    obtain ⟨p,tk,hap,hp,rfl,rfl,hI,rfl⟩:=hrel;by_cases hpt:p<s.length
    · have hptz:(p:Int)<(s.length:Int):=by omega
      have hptn:p<(e_ s).size:=by omega
      have key2:=a2L hpt hptn;have hcb2:=(s.getD p 0).toNat_lt;have hI2:=hI.out;unfold rlI at hI2;rw [a3P hpt,rgL] at hI2;generalize s.getD p 0=c2 at *;by_cases h10:c2.toNat=10
      · have hr2:Hid (R=0):=hid (by rw [if_pos h10] at hI2;exact hI2)
        generalize c2.toNat=cn at *;subst h10;clear hI hr hI2;go_wp2;go_ret;exact ⟨by rw [hr2.out];rfl,rfl⟩
      rw [if_neg h10] at hI2;by_cases h47:c2.toNat=47∧tk=false
      · have hr2:Hid (R=p+1):=hid (by rw [if_pos h47] at hI2;exact hI2)
        obtain ⟨h47,rfl⟩:=h47;generalize c2.toNat=cn at *;subst h47;clear hI hr hI2 h10;go_wp2;go_ret;exact ⟨by rw [hr2.out];rfl,rfl⟩
      rw [if_neg h47] at hI2
      have hI3:Hid (R=rlI (c2.toNat == 92 && !tk) s (p+1)):=hid (by
       rw [hI2];unfold rlI;cases e2:rgL (c2.toNat == 92 && !tk) (s.drop (p+1)) with
       | none=>rfl
       | some n=>show p+(n+1)=p+1+n;omega)
      clear hI2;generalize c2.toNat=cn at *;have z10:((cn:Int) != 10)=true:=by rw [bne_iff_ne];omega
      have hI4:Hid (∀ tk',tk'=(cn == 92 && !tk)→R=rlI tk' s (p+1)):=hid (fun tk' h=>by rw [h];exact hI3.out);clear hI3 hI hr;cases tk with
      | true =>
       have hI5:=hid (hI4.out false (by cases cn == 92 <;> rfl));clear hI4;by_cases h47':cn=47
       · subst h47'
         go_wp2;go_roundw
         case rel=>exact ⟨p+1,false,by omega,by omega,by go_num,rfl,hI5,by first | rfl | trivial⟩
         case measure=>simp [intOf];omega
       · have z47:((cn:Int) == 47)=false:=by rw [beq_eq_false_iff_ne];omega
         by_cases h92:cn=92
         · subst h92
           go_wp2;go_roundw
           case rel=>exact ⟨p+1,false,by omega,by omega,by go_num,rfl,hI5,by first | rfl | trivial⟩
           case measure=>simp [intOf];omega
         · have z92:((cn:Int) == 92)=false:=by rw [beq_eq_false_iff_ne];omega
           go_wp2;go_roundw
           case rel=>exact ⟨p+1,false,by omega,by omega,by go_num,rfl,hI5,by first | rfl | trivial⟩
           case measure=>simp [intOf];omega
      | false =>
       have h47n:¬ cn=47:=fun h=>h47 ⟨h,rfl⟩
       have z47:((cn:Int) == 47)=false:=by rw [beq_eq_false_iff_ne];omega
       by_cases h92:cn=92
       · have hI5:=hid (hI4.out true (by rw [h92];rfl))
         clear hI4;subst h92;go_wp2;go_roundw
         case rel=>exact ⟨p+1,true,by omega,by omega,by go_num,rfl,hI5,by first | rfl | trivial⟩
         case measure=>simp [intOf];omega
       · have hI5:=hid (hI4.out false (by rw [beq_eq_false_iff_ne.2 h92];rfl))
         clear hI4;have z92:((cn:Int) == 92)=false:=by rw [beq_eq_false_iff_ne];omega
         go_wp2;go_roundw
         case rel=>exact ⟨p+1,false,by omega,by omega,by go_num,rfl,hI5,by first | rfl | trivial⟩
         case measure=>simp [intOf];omega
    · have hptz:¬ (p:Int)<(s.length:Int):=by omega
      have hr20:R=0:=by have:=hI.out;unfold rlI at this;rw [List.drop_eq_nil_of_le (by omega)] at this;cases tk <;> exact this
      have hr2:=hid hr20;clear hI hr hr20;go_wp2;go_ret;exact ⟨by rw [hr2.out];rfl,rfl⟩
 · have hr:R=0:=by
    rw [← hR.out,hE,rlC,if_neg h47]
   subst hr;generalize (s.getD 0 0).toNat=c at *;have z5:((c:Int) != 47)=true:=by rw [bne_iff_ne];omega
   clear hE hR;go_enter Tryz.func121,Tryz.ntmps121
   go_wp2;go_ret;exact ⟨rfl,rfl⟩
set_option maxRecDepth 20000 in
theorem b4J (s:ByteArray) (w:World) (hlim:s.size≤281474976710656) :
 Calls Tryz.prog 85 #[.string s] w fun e w'=>e=.returned (.string s)∧Below w.heap.size w w':=by
 go_enter Tryz.func85,Tryz.ntmps85
 go_wp2_with (go_at_call 123;refine (Tryz.stringslite_Clone _ _ hlim).mono ?_;rintro e w1 ⟨rfl,hb⟩)
 go_ret;exact ⟨rfl,hb⟩
abbrev fnV (n:Nat):Value:=.func (.func n) #[] #[]
abbrev b1D:Value:=.agg #[fnV 119,fnV 120,fnV 121,fnV 122]
set_option maxRecDepth 20000 in
theorem b7h (w:World):Calls Tryz.prog 84 #[] w fun e w'=>e=.returned b1D∧Below w.heap.size w w':=by
 have hb:=hid (al' w (.cells #[fnV 119,fnV 120,fnV 121,fnV 122] 158));go_enter Tryz.func84,Tryz.ntmps84
 go_wp2;refine bodyPost_ret (v:=b1D) (by simp [results,Tryz.results84,go_sem]) rfl ⟨rfl,?_⟩;exact hb.out
set_option maxRecDepth 20000 in
theorem ix4 (w:World):(Instr.index 158 b1D (.int .i64 0)).run Tryz.prog w=.ok (fnV 119) w∧(Instr.index 158 b1D (.int .i64 1)).run Tryz.prog w=.ok (fnV 120) w∧(Instr.index 158 b1D (.int .i64 2)).run Tryz.prog w=.ok (fnV 121) w∧(Instr.index 158 b1D (.int .i64 3)).run Tryz.prog w=.ok (fnV 122) w:=by
 refine ⟨?_,?_,?_,?_⟩
 all_goals
  simp [Instr.index,run_underlying Tryz.underlying158,asIntOf,go_sem,part,isAgg,run_underlying Tryz.underlying157]
def b8p (u:Txt):Nat×Nat:=if 0<a3r u then (0,a3r u) else if 0<nmC u then (1,nmC u) else if 0<rlC u then (2,rlC u) else if 0<sgC u then (3,sgC u) else (0,0)
set_option maxRecDepth 20000 in
set_option maxHeartbeats 4000000 in
theorem c4V (u:Txt) (w:World) (h0:0<u.length) (hs:u.length≤1000000):Calls Tryz.prog 63 #[.string (e_ u)] w fun e w'=>e=.returned (.tuple #[.int .i64 ((b8p u).1:Int),.int .i64 ((b8p u).2:Int)])∧Below w.heap.size w w':=by
 have GC:=hid (b7h w)
 obtain ⟨c,r,hu⟩:∃ c r,u=c :: r:=by
  cases u with
  | nil=>exact absurd h0 (by decide)
  | cons c r=>exact ⟨c,r,rfl⟩
 have GB:=hid (fun x=>c2W c r x (by rw [← hu];exact hs));have GS:=hid (fun x=>c3y c r x (by rw [← hu];exact hs));rw [← hu] at GB GS;have GN:=hid (fun x=>c3T u x h0 hs);have GR:=hid (fun x=>c3B u x h0 hs);obtain ⟨R,hR⟩:∃ R,Hid (b8p u=R):=⟨_,hid rfl⟩;rw [hR.out];have hR:=hid (show b8p u=R from hR.out);unfold b8p at hR;clear hu;have hI:=hid (fun x=>ix4 x);generalize a3r u=n0 at *;generalize nmC u=n1 at *;generalize rlC u=n2 at *;generalize sgC u=n3 at *;generalize e_ u=U at *;go_enter Tryz.func63,Tryz.ntmps63
 go_wp2_with (go_at_call 84;refine GC.out.mono ?_;clear GC;rintro e w2 ⟨rfl,hc2⟩;have hc2:=hid hc2)
 go_loopw [8] (fun x wr=>∃ k:Nat,k≤4∧x=.int .i64 (k:Int)∧Hid ((0<k→n0=0)∧(1<k→n1=0)∧(2<k→n2=0)∧(3<k→n3=0))∧Hid (Below w.heap.size w wr)) (fun x _=>4 - (intOf x).toNat)
 case atStart=>exact ⟨0,by omega,rfl,hid (by omega),hc2⟩
 case round =>
  obtain ⟨k,hk,rfl,hZ,hw⟩:=hrel;have hZ1:=hZ.out;obtain ⟨i0,i1,i2,i3⟩:=hI.out wr;rcases (show k=0∨k=1∨k=2∨k=3∨k=4 by omega) with h9 | h9 | h9 | h9 | h9
  · subst h9
    have GB1:=hid (GB.out wr);by_cases hn:0<n0
    · have hnz:(0:Int)<(n0:Int):=by omega
      have hr:=hid (hR.out.symm.trans (if_pos hn));clear hR hZ hZ1;go_wp2_with (go_at_call 119;refine GB1.out.mono ?_;clear GB1;rintro e w3 ⟨rfl,hc3⟩;subst w3)
      go_ret2;exact ⟨by rw [hr.out];rfl,hw.out⟩
    · have hnz:¬ (0:Int)<(n0:Int):=by omega
      have hZ2:Hid ((0<1→n0=0)∧(1<1→n1=0)∧(2<1→n2=0)∧(3<1→n3=0)):=hid (by omega);clear hZ hZ1;go_wp2_with (go_at_call 119;refine GB1.out.mono ?_;clear GB1;rintro e w3 ⟨rfl,hc3⟩;subst w3)
      go_roundw
      case rel=>exact ⟨1,by omega,by go_num,hZ2,hw⟩
      case measure=>simp [intOf]
  · subst h9
    have GB1:=hid (GN.out wr);have hp0:n0=0:=hZ1.1 (by omega);subst hp0;by_cases hn:0<n1
    · have hnz:(0:Int)<(n1:Int):=by omega
      have hr:=hid (hR.out.symm.trans ((if_neg (by decide)).trans (if_pos hn)));clear hR hZ hZ1;go_wp2_with (go_at_call 120;refine GB1.out.mono ?_;clear GB1;rintro e w3 ⟨rfl,hc3⟩;subst w3)
      go_ret2;exact ⟨by rw [hr.out];rfl,hw.out⟩
    · have hnz:¬ (0:Int)<(n1:Int):=by omega
      have hZ2:Hid ((0<2→0=0)∧(1<2→n1=0)∧(2<2→n2=0)∧(3<2→n3=0)):=hid (by omega);clear hZ hZ1;go_wp2_with (go_at_call 120;refine GB1.out.mono ?_;clear GB1;rintro e w3 ⟨rfl,hc3⟩;subst w3)
      go_roundw
      case rel=>exact ⟨2,by omega,by go_num,hZ2,hw⟩
      case measure=>simp [intOf]
  · subst h9
    have GB1:=hid (GR.out wr);have hp0:n0=0:=hZ1.1 (by omega);subst hp0;have hp1:n1=0:=hZ1.2.1 (by omega);subst hp1;by_cases hn:0<n2
    · have hnz:(0:Int)<(n2:Int):=by omega
      have hr:=hid (hR.out.symm.trans ((if_neg (by decide)).trans ((if_neg (by decide)).trans (if_pos hn))));clear hR hZ hZ1;go_wp2_with (go_at_call 121;refine GB1.out.mono ?_;clear GB1;rintro e w3 ⟨rfl,hc3⟩;subst w3)
      go_ret2;exact ⟨by rw [hr.out];rfl,hw.out⟩
    · have hnz:¬ (0:Int)<(n2:Int):=by omega
      have hZ2:Hid ((0<3→0=0)∧(1<3→0=0)∧(2<3→n2=0)∧(3<3→n3=0)):=hid (by omega);clear hZ hZ1;go_wp2_with (go_at_call 121;refine GB1.out.mono ?_;clear GB1;rintro e w3 ⟨rfl,hc3⟩;subst w3)
      go_roundw
      case rel=>exact ⟨3,by omega,by go_num,hZ2,hw⟩
      case measure=>simp [intOf]
  · subst h9
    have GB1:=hid (GS.out wr);have hp0:n0=0:=hZ1.1 (by omega);subst hp0;have hp1:n1=0:=hZ1.2.1 (by omega);subst hp1;have hp2:n2=0:=hZ1.2.2.1 (by omega);subst hp2;by_cases hn:0<n3
    · have hnz:(0:Int)<(n3:Int):=by omega
      have hr:=hid (hR.out.symm.trans ((if_neg (by decide)).trans ((if_neg (by decide)).trans ((if_neg (by decide)).trans (if_pos hn)))));clear hR hZ hZ1;go_wp2_with (go_at_call 122;refine GB1.out.mono ?_;clear GB1;rintro e w3 ⟨rfl,hc3⟩;subst w3)
      go_ret2;exact ⟨by rw [hr.out];rfl,hw.out⟩
    · have hnz:¬ (0:Int)<(n3:Int):=by omega
      have hZ2:Hid ((0<4→0=0)∧(1<4→0=0)∧(2<4→0=0)∧(3<4→n3=0)):=hid (by omega);clear hZ hZ1;go_wp2_with (go_at_call 122;refine GB1.out.mono ?_;clear GB1;rintro e w3 ⟨rfl,hc3⟩;subst w3)
      go_roundw
      case rel=>exact ⟨4,by omega,by go_num,hZ2,hw⟩
      case measure=>simp [intOf]
  · subst h9
    have hr:Hid (R=(0,0)):=hid (by
     have h1:=hZ1.1 (by omega);have h2:=hZ1.2.1 (by omega);have h3:=hZ1.2.2.1 (by omega);have h4:=hZ1.2.2.2 (by omega);have h5:=hR.out;rw [h1,h2,h3,h4] at h5;exact h5.symm)
    clear hR hZ hZ1;go_wp2;go_ret2;exact ⟨by rw [hr.out];rfl,hw.out⟩
def wdV (x:Wd):List Value:=[.int .i64 (x.1:Int),.int .i64 (x.2.1:Int),.string (e_ x.2.2)]
abbrev c4p (w:World) (B:Nat) (v:Value) (l:List Wd):Prop:=w.ownsRow B 90 3 v l.length (l.flatMap wdV)
set_option maxRecDepth 20000 in
theorem Tryz.infoWd:(Tryz.prog.info? 90).map (fun i=>(i.zero,i.size,i.bytes))=some (some (.agg #[.int .i64 0,.int .i64 0,.string ⟨#[]⟩]),3,32):=by kernel_rfl
structure WdM (W0 w:World) (v:Value) (l:List Wd):Prop where
 own:c4p w W0.heap.size v l
 low:Below W0.heap.size W0 w
theorem WdM.keep {W0 w u:World} {v:Value} {l:List Wd} (h:WdM W0 w v l) (hu:Below w.heap.size w u):WdM W0 u v l:=⟨j_ h.own hu,a_ h.low hu⟩
theorem WdM.push {W0 w w':World} {v:Value} {l:List Wd} (h:WdM W0 w v l) {x:Wd} {g cap:Nat}
 (ho:w'.ownsRow W0.heap.size 90 3 (.slice (some ⟨g,0,none⟩) (l.length+1) cap) (l.length+1) (l.flatMap wdV++wdV x)) (hg:w.grownBy w' v.ownBlock) :
 WdM W0 w' (.slice (some ⟨g,0,none⟩) (l.length+1) cap) (l++[x]):=by
 have hk:=Kept.of_grown hg;refine ⟨?_,h.low.trans (hk.below (fun k e=>(h.own.lt k e).1) h.low.size)⟩;unfold c4p;rw [List.length_append,List.flatMap_append,List.flatMap_singleton];exact ho
theorem a7b {T:Txt} {a n:Nat} {c:Nat} (hc:((T.drop a).headD 0).toNat=c) (h1:a1d c=true):b5j T a n=(1,a,(T.drop a).take n):=by
 have h2:c≠47:=fun h=>by subst h;cases h1
 unfold b5j a5m;rw [hc,h1,if_pos rfl,if_neg h2]
theorem b4s {u:Txt} (h:0<a3r u):b8p u=(0,a3r u):=if_pos h
theorem kinds (c:UInt8):(b1O c.toNat=true→a1d c.toNat=false∧c.toNat≠47):=fun h=>by
 have h9:c.toNat=58∨c.toNat=59∨c.toNat=124∨c.toNat=37:=by
  unfold b1O at h;rw [Bool.or_eq_true,Bool.or_eq_true,Bool.or_eq_true,beq_iff_eq,beq_iff_eq,beq_iff_eq,beq_iff_eq] at h;omega
 generalize c.toNat=n at *;refine ⟨a1Z (by omega),by omega⟩
theorem b6r {c:UInt8} {r:Txt} (h:a1d c.toNat=true):0<a2g (c :: r):=by rw [a2g,h,Bool.true_or,if_pos rfl];omega
theorem b7i {u:Txt} (hb:a3r u=0):b8p u=match a8o u with | none=>(0,0) | some n=>(a5m (u.headD 0).toNat,n):=by
 cases u with
 | nil=>rfl
 | cons c r =>
  unfold b8p;rw [hb,if_neg (by decide)]
  show _=match a8o (c :: r) with | none=>(0,0) | some n=>(a5m c.toNat,n)
  rw [a8o];by_cases hs:b1O c.toNat=true
  · obtain ⟨h1,h2⟩:=kinds c hs
    rw [if_pos hs]
    show _=(a5m c.toNat,1)
    have e1:nmC (c :: r)=0:=by rw [nmC,h1];rfl
    have e2:rlC (c :: r)=0:=by rw [rlC,if_neg h2]
    have e3:sgC (c :: r)=1:=by rw [sgC,hs,if_pos rfl]
    rw [e1,e2,e3,if_neg (by decide),if_neg (by decide),if_pos (by decide)];unfold a5m;rw [h1,if_neg (by decide),if_neg h2]
  · rw [if_neg hs]
    have h3:sgC (c :: r)=0:=by rw [sgC,if_neg hs]
    rw [h3];cases hl:a1d c.toNat with
    | true =>
     rw [if_pos rfl];have h47:c.toNat≠47:=fun h=>by rw [h] at hl;cases hl
     have h4:rlC (c :: r)=0:=by rw [rlC,if_neg h47]
     rw [h4,nmC,hl,if_pos rfl];by_cases h16:16<a2g (c :: r)
     · rw [if_pos h16,if_pos h16]
       rfl
     · rw [if_neg h16,if_neg h16,if_pos (b6r hl)]
       show _=(a5m c.toNat,a2g (c :: r))
       unfold a5m;rw [hl,if_pos rfl]
    | false =>
     have e1:nmC (c :: r)=0:=by rw [nmC,hl];rfl
     rw [e1,if_neg (show ¬ (0:Nat)<0 by decide),if_neg (show ¬ false=true by decide),rlC];by_cases h47:c.toNat=47
     · rw [if_pos h47,if_pos h47]
       cases e:rgL false r with
       | none=>rfl
       | some m =>
        show (if 0<m+1 then (2,m+1) else _)=(a5m c.toNat,m+1)
        rw [if_pos (by omega)];unfold a5m;rw [hl,if_neg (by decide),if_pos h47]
     · rw [if_neg h47,if_neg h47]
       rfl
theorem b0f {c:Nat} (h:a5m c=2):c=47:=by
 unfold a5m at h;split at h
 · omega
 · split at h
   · assumption
   · omega
def b6M (k:Nat) (t:Txt):Txt:=if k=2 then (t.drop 1).take (t.length - 2) else t
theorem b5q {s:Txt} {a n:Nat} (hl:a+n≤s.length):b5j s a n=(a5m ((s.drop a).headD 0).toNat,a,b6M (a5m ((s.drop a).headD 0).toNat) ((s.drop a).take n)):=by
 have h1:((s.drop a).take n).length=n:=by rw [List.length_take,List.length_drop];omega
 unfold b5j b6M;generalize ((s.drop a).headD 0).toNat=c;refine Prod.ext rfl (Prod.ext rfl ?_)
 show (if c=47 then _ else _)=if a5m c=2 then _ else _
 by_cases h47:c=47
 · subst h47
   rw [if_pos rfl,if_pos (by decide),h1,List.drop_take,List.take_take,List.drop_drop,Nat.min_eq_left (by omega)]
 · rw [if_neg h47,if_neg (fun h=>h47 (b0f h))]
theorem b6I (c:Nat):a5m c≠0:=by unfold a5m;split <;> (try split) <;> omega
set_option maxRecDepth 20000 in
set_option maxHeartbeats 1000000 in
theorem c2c (k:Nat) (t:Txt) (w:World) (hk:k=2→2≤t.length) (hs:t.length≤1000000):Calls Tryz.prog 64 #[.int .i64 (k:Int),.string (e_ t)] w fun e w'=>e=.returned (.string (e_ (b6M k t)))∧Below w.heap.size w w':=by
 have hsz:=o_ t;by_cases h2:k=2
 · have hl:=hk h2
   have e1:b6M k t=(t.drop 1).take (t.length - 2):=if_pos h2;have hex:=a5Q t 1 (t.length - 2);rw [← e1] at hex;have hlen:(b6M k t).length≤1000000:=by rw [e1,List.length_take,List.length_drop];omega
   have GC:=hid (fun u=>b4J (e_ (b6M k t)) u (by rw [o_];omega));obtain ⟨E,hE⟩:∃ E,1+(t.length - 2)=E:=⟨_,rfl⟩;rw [hE] at hex;have hEz:(t.length:Int) - 1=(E:Int):=by omega
   have hE1:1≤E:=by omega
   have hE2:E≤(e_ t).size:=by omega
   have hE1z:(1:Int)≤(E:Int):=by omega
   subst h2;clear e1 hk;generalize e_ (b6M 2 t)=U at *;go_enter Tryz.func64,Tryz.ntmps64
   go_wp2_with (go_at_call 85;refine (GC.out w).mono ?_;clear GC;rintro e w2 ⟨rfl,hc2⟩)
   go_ret;exact ⟨rfl,hc2⟩
 · have e1:b6M k t=t:=if_neg h2
   rw [e1];have GC:=hid (fun u=>b4J (e_ t) u (by rw [o_];omega));have z2:((k:Int) == 2)=false:=by rw [beq_eq_false_iff_ne];omega
   clear e1 hk;go_enter Tryz.func64,Tryz.ntmps64
   go_wp2_with (go_at_call 85;refine (GC.out w).mono ?_;clear GC;rintro e w2 ⟨rfl,hc2⟩)
   go_ret;exact ⟨rfl,hc2⟩
end Go.Proofs.YtjgedijclkoemaaGreatDoor
