/- What the five laws of layer 17 share, part 3: no statement of its own. -/
import Derived.Test.YtjgedijclkoemaaGreatDoorJ2
import Derived.Laws.AppendOwnNone
import Derived.Laws.OwnMore
namespace Go.Proofs.YtjgedijclkoemaaGreatDoor
open Go.RowKit
def b4M (c:Cel):List Value:=[.int .i64 c.op,.int .u64 (c.s.a:Int),.int .u64 (c.s.b:Int),.int .u64 (c.s.c:Int),.int .u64 (c.s.d:Int)]
def a2u (l:List Cel):List Value:=l.flatMap b4M
theorem b4a (l m:List Cel):a2u (l++m)=a2u l++a2u m:=by unfold a2u;rw [List.flatMap_append]
def cellV (c:Cel):Nat→Value
 | 0=>.int .i64 c.op
 | 1=>.int .u64 (c.s.a:Int)
 | 2=>.int .u64 (c.s.b:Int)
 | 3=>.int .u64 (c.s.c:Int)
 | _=>.int .u64 (c.s.d:Int)
theorem b0s:∀ (l:List Cel) (j i:Nat) (hj:j<l.length),i<5→(a2u l)[j * 5+i]?=some (cellV l[j] i)
 | c :: t,0,i,_,hi=>by
  have h5:i=0∨i=1∨i=2∨i=3∨i=4:=by omega
  rcases h5 with rfl | rfl | rfl | rfl | rfl <;> rfl
 | c :: t,j+1,i,hj,hi=>by
  have ih:=b0s t j i (by simpa using hj) hi;unfold a2u at ih ⊢;rw [List.flatMap_cons,show (j+1) * 5+i=5+(j * 5+i) by omega,List.getElem?_append_right (by simp [b4M])];simpa [b4M] using ih
theorem b8u {w:World} {b o:Nat} {c:Cel} (h:∀ i,i<5→w.cell? ⟨b,o+i,none⟩=some (cellV c i)):At5 w b o c:=⟨h 0 (by omega),h 1 (by omega),h 2 (by omega),h 3 (by omega),h 4 (by omega)⟩
abbrev b0S (w:World) (B:Nat) (v:Value) (l:List Cel):Prop:=w.ownsRow B 204 5 v l.length (a2u l)
theorem y_ {w w':World} {base size n:Nat} {e:TypeId} {v:Value} {xs:List Value} (h:w.ownsRow base e size v n xs) (hb:∀ k,v.ownBlock=some k→w'.heap[k]?=w.heap[k]?):w'.ownsRow base e size v n xs:=by
 rcases h.2 with ⟨rfl,h0⟩ | ⟨g,cap,cur,rfl,h1,h2,h3⟩
 · exact ⟨h.1,.inl ⟨rfl,h0⟩⟩
 · exact ⟨h.1,.inr ⟨g,cap,cur,rfl,h1,(hb g rfl).trans h2,h3⟩⟩
theorem j_ {w w':World} {base size n:Nat} {e:TypeId} {v:Value} {xs:List Value} (h:w.ownsRow base e size v n xs) (hb:Below w.heap.size w w'):w'.ownsRow base e size v n xs:=
 y_ h fun k hk=>hb.block k (h.lt k hk).2
theorem Cels.of_own {w:World} {B:Nat} {v:Value} {l:List Cel} (h:b0S w B v l) (hf:∀ c∈l,FitC c):Cels w v l:=by
 have h':=h;rcases h.2 with ⟨rfl,h0⟩ | ⟨g,cap,cur,rfl,_,_,hc,_⟩
 · exact ⟨none,0,by rw [h0],by omega,fun _=>rfl,hf,fun j hj=>absurd hj (by omega)⟩
 · refine ⟨_,cap,rfl,hc,fun h=>(by cases h),hf,fun j hj=>⟨g,0,rfl,(h'.lt g rfl).2,b8u fun i hi=>?_⟩⟩
   have:=h'.cells rfl (j * 5+i) _ (b0s l j i hj hi)
   rw [Go.WideShapes.add_plain] at this
   rwa [Nat.add_assoc]
set_option maxRecDepth 20000 in
theorem Tryz.info204:(Tryz.prog.info? 204).map (fun i=>(i.zero,i.size,i.bytes))=some (some (.agg #[.int .i64 0,.int .u64 0,.int .u64 0,.int .u64 0,.int .u64 0]),5,40):=by kernel_rfl
end Go.Proofs.YtjgedijclkoemaaGreatDoor
