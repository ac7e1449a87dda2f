/- What the five laws of layer 17 share, part 21: no statement of its own. -/
import Derived.Test.YtjgedijclkoemaaGreatDoorJ19
namespace Go.Proofs.YtjgedijclkoemaaGreatDoor
open Go.RowKit Go.Maps Go.Sort
theorem Fits12.bnd {g:Gm} (h:Fits12 g):BndG g where
 rules:=by have:=h.rules;omega
 nonts:=by have:=h.nonts;omega
 levels:=by have:=h.levels;omega
 prods:=by have:=h.prods;omega
 re r hr:=by
  obtain ⟨j,hj,e⟩:=List.getElem_of_mem hr
  have:=(h.rule j hj).1
  rw [e] at this;omega
 right p hp:=by
  obtain ⟨j,hj,e⟩:=List.getElem_of_mem hp
  have:=h.prod j hj
  rw [e] at this;omega
set_option maxRecDepth 20000 in
theorem Fits12.names {g:Gm} (h:Fits12 g):∀ t∈g.allN,t.length≤1000000:=fun t ht=>by
 unfold Gm.allN at ht;rw [List.mem_append,List.mem_map] at ht;rcases ht with ⟨r,hr,rfl⟩ | ht
 · obtain ⟨j,hj,rfl⟩:=List.getElem_of_mem hr
   have:=(h.rule j hj).2
   omega
 · obtain ⟨j,hj,rfl⟩:=List.getElem_of_mem ht
   have:=h.nont j hj
   omega
theorem a9E {g:Gm} {l:List It} (h:RgtI g l):c0M g l=true:=a9F.2 h
theorem b8U {g:Gm} {l:List It} (h:¬ RgtI g l):c0M g l=false:=Bool.eq_false_iff.2 fun e=>h (a9F.1 e)
end Go.Proofs.YtjgedijclkoemaaGreatDoor
