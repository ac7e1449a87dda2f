/- The reference: First. The reference: Last. Spots in memory; the reference: inside. Ways that are read, byte by byte. -/
import Derived.Test.YtjelgphhlcecoaaGreatDoorJ10
import Derived.Test.YtjelgphhlcecoaaGreatDoorJ4
namespace Go.Proofs.YtjelgphhlcecoaaGreatDoor
open Go.RowKit

end Go.Proofs.YtjelgphhlcecoaaGreatDoor
namespace Go.Proofs.YtjelgphhlcecoaaGreatDoor
open Go.RowKit

end Go.Proofs.YtjelgphhlcecoaaGreatDoor
namespace Go.Proofs.YtjelgphhlcecoaaGreatDoor
open Go.RowKit

/-- a set lies at a place -/
def At4 (w : World) (b o : Nat) (S : W4) : Prop := w.cell? ⟨b, o, none⟩ = some (.int .u64 (S.a : Int)) ∧ w.cell? ⟨b, o + 1, none⟩ = some (.int .u64 (S.b : Int)) ∧ w.cell? ⟨b, o + 2, none⟩ = some (.int .u64 (S.c : Int)) ∧ w.cell? ⟨b, o + 3, none⟩ = some (.int .u64 (S.d : Int))
theorem At4.keep {w w' : World} {b o : Nat} {S : W4} (h : At4 w b o S) (hb : Below w.heap.size w w') : At4 w' b o S := ⟨keep_cell hb h.1, keep_cell hb h.2.1, keep_cell hb h.2.2.1, keep_cell hb h.2.2.2⟩
/-- a slice holds these sets, wherever it lies -/
def Sets (w : World) (v : Value) (l : List W4) : Prop := ∃ a cap, v = .slice a l.length cap ∧ l.length ≤ cap ∧ (a = none → cap = 0) ∧ (∀ S ∈ l, Fit4 S) ∧ ∀ j (h : j < l.length), ∃ b o, a = some ⟨b, o, none⟩ ∧ b < w.heap.size ∧ At4 w b (o + j * 4) l[j]
theorem Sets.keep {w w' : World} {v : Value} {l : List W4} (h : Sets w v l) (hb : Below w.heap.size w w') : Sets w' v l := by
  obtain ⟨a, cap, hv, hc, hn, hf, hat⟩ := h
  refine ⟨a, cap, hv, hc, hn, hf, fun j hj => ?_⟩
  obtain ⟨b, o, ha, hlt, h4⟩ := hat j hj
  exact ⟨b, o, ha, Nat.lt_of_lt_of_le hlt hb.size, h4.keep hb⟩
/-- a slice of slices of numbers -/
def Numss (w : World) (v : Value) (l : List (List Int)) : Prop := ∃ a cap, v = .slice a l.length cap ∧ l.length ≤ cap ∧ (a = none → cap = 0) ∧ ∀ j (h : j < l.length), ∃ b o x, a = some ⟨b, o, none⟩ ∧ b < w.heap.size ∧ w.cell? ⟨b, o + j, none⟩ = some x ∧ Nums w x l[j]
theorem Numss.keep {w w' : World} {v : Value} {l : List (List Int)} (h : Numss w v l) (hb : Below w.heap.size w w') : Numss w' v l := by
  obtain ⟨a, cap, hv, hc, hn, hat⟩ := h
  refine ⟨a, cap, hv, hc, hn, fun j hj => ?_⟩
  obtain ⟨b, o, x, ha, hlt, h1, h2⟩ := hat j hj
  exact ⟨b, o, x, ha, Nat.lt_of_lt_of_le hlt hb.size, keep_cell hb h1, h2.keep hb⟩
structure Sp where
  sets : List W4
  null : Bool
  first : List Int
  last : List Int
  follow : List (List Int)
/-- spots in memory: what the five fields hold -/
structure SpV (w : World) (sv fv lv gv : Value) (p : Sp) : Prop where
  sets : Sets w sv p.sets
  first : Nums w fv p.first
  last : Nums w lv p.last
  follow : Numss w gv p.follow
theorem SpV.keep {w w' : World} {sv fv lv gv : Value} {p : Sp} (h : SpV w sv fv lv gv p) (hb : Below w.heap.size w w') : SpV w' sv fv lv gv p := ⟨h.sets.keep hb, h.first.keep hb, h.last.keep hb, h.follow.keep hb⟩
end Go.Proofs.YtjelgphhlcecoaaGreatDoor
namespace Go.Proofs.YtjelgphhlcecoaaGreatDoor

def gOf (t : Rx) (k : Nat) : W4 := (setsL t).getD k noneB
/-- a way that is read with a text ends at this spot -/
def Ends (t : Rx) (s : Txt) (k : Nat) : Prop := ∃ x u, Fst t 0 x ∧ Chn (Fol t 0) (x :: u) ∧ lastD x u = k ∧ RdS (gOf t) (x :: u) s
/-- behind a text a way may go on at this spot -/
def InT (t : Rx) (s : Txt) (k : Nat) : Prop := (s = [] ∧ Fst t 0 k) ∨ ∃ j, Ends t s j ∧ Fol t 0 j k
theorem InT.lt {t : Rx} {s : Txt} {k : Nat} (h : InT t s k) : k < nSets t := by
  rcases h with ⟨_, h⟩ | ⟨j, _, h⟩
  · have := fst_in t 0 k h; omega
  · have := fol_in t 0 j k h; omega
end Go.Proofs.YtjelgphhlcecoaaGreatDoor
