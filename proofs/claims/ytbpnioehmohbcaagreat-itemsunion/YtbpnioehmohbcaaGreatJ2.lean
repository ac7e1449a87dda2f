/- The fewest sets that share nothing, hold all bytes, and of which each is wholly in, or wholly out of, each of a list. The least byte of a set; the chapter's example. Sets of bytes in memory. A set as it is told, and as it is read. -/
import Derived.Test.YtbpnioehmohbcaaGreatJ1
import Derived.Lib.TrailingZeros
import Derived.Lib.SmallJoins
import Derived.WalkKit
import Derived.WalkSpells
namespace Go.Proofs.YtbpnioehmohbcaaGreat
end Go.Proofs.YtbpnioehmohbcaaGreat
namespace Go.Proofs.YtbpnioehmohbcaaGreat
end Go.Proofs.YtbpnioehmohbcaaGreat
namespace Go.Proofs.YtbpnioehmohbcaaGreat
open Go.RowKit
theorem wrapU {z:Int} (h0:0 ≤ z) (h1:z < 18446744073709551616):IntKind.u64.wrap z = z:=by
 rw [IntKind.wrap_u64];omega
theorem pow_lt64 {j:Nat} (h:j < 64):2 ^ j < 18446744073709551616:=by
 have:(2:Nat) ^ j < 2 ^ 64:=Nat.pow_lt_pow_right (by omega) h
 omega
theorem wrap_pow {j:Nat} (h:j < 64):IntKind.u64.wrap ((2:Int) ^ j) = ((2 ^ j:Nat):Int):=by
 rw [wrapU (by exact Int.pow_nonneg (by omega)) (by have:=pow_lt64 h;rw [show ((2:Int) ^ j) = ((2 ^ j:Nat):Int) by push_cast;rfl];omega)]
 push_cast;rfl
abbrev valB (S:W4):Value:=.agg #[.int .u64 (S.a:Int),.int .u64 (S.b:Int),.int .u64 (S.c:Int),.int .u64 (S.d:Int)]
theorem al' (u:World) (o:Obj):Below u.heap.size u (u.alloc o):=(Below.refl _ u).alloc (Nat.le_refl _) _
theorem bl_step {w u w1:World} (h:Below w.heap.size w u) (hb:Below u.heap.size u w1):Below w.heap.size w w1:=h.trans (hb.mono h.size)
theorem bl_set {B:Nat} {u w:World} (h:Below B u w) (b o:Nat) (v:Value) (hb:B ≤ b):Below B u (w.setCell ⟨b,o,none⟩ v):=h.setCell (p:=⟨b,o,none⟩) hb v
theorem heap_new (w:World) (o:Obj):(w.alloc o).heap[w.heap.size]? = some o:=by
 show (w.heap.push o)[w.heap.size]? = some o
 simp
theorem two_blocks (w:World) (o o':Obj):((w.alloc o).alloc o').heap[w.heap.size]? = some o ∧ ((w.alloc o).alloc o').heap[w.heap.size + 1]? = some o':=by
 refine ⟨(Below.heap_alloc _ _ _ (by simp)).trans (heap_new w o),?_⟩
 have:=heap_new (w.alloc o) o'
 rwa [show (w.alloc o).heap.size = w.heap.size + 1 by simp] at this
theorem cells4 {w:World} {b:Nat} {x0 x1 x2 x3:Value} {T:TypeId} (h:w.heap[b]? = some (.cells #[x0,x1,x2,x3] T (0,0))) :
 w.cell? ⟨b,0,none⟩ = some x0 ∧ w.cell? ⟨b,1,none⟩ = some x1 ∧ w.cell? ⟨b,2,none⟩ = some x2 ∧ w.cell? ⟨b,3,none⟩ = some x3 ∧
 w.frozen? ⟨b,0,none⟩ = false ∧ w.frozen? ⟨b,1,none⟩ = false ∧ w.frozen? ⟨b,2,none⟩ = false ∧ w.frozen? ⟨b,3,none⟩ = false:=by
 simp [World.cell?,World.frozen?,h]
def Blk (w:World) (b:Nat) (S:W4):Prop:=w.heap[b]? = some (.cells #[.int .u64 (S.a:Int),.int .u64 (S.b:Int),.int .u64 (S.c:Int),.int .u64 (S.d:Int)] 130 (0,0))
theorem Blk.lt {w:World} {b:Nat} {S:W4} (h:Blk w b S):b < w.heap.size:=by
 rcases Nat.lt_or_ge b w.heap.size with h' | h'
 · exact h'
 · unfold Blk at h;rw [Array.getElem?_eq_none h'] at h;cases h
theorem Blk.keep {w w':World} {b:Nat} {S:W4} (h:Blk w b S) (hb:Below w.heap.size w w'):Blk w' b S:=(hb.block b h.lt).trans h
theorem Blk.cells {w:World} {b sa sb sc sd:Nat} (h:Blk w b ⟨sa,sb,sc,sd⟩) :
 w.cell? ⟨b,0,none⟩ = some (.int .u64 sa) ∧ w.cell? ⟨b,1,none⟩ = some (.int .u64 sb) ∧ w.cell? ⟨b,2,none⟩ = some (.int .u64 sc) ∧ w.cell? ⟨b,3,none⟩ = some (.int .u64 sd) ∧
 w.frozen? ⟨b,0,none⟩ = false ∧ w.frozen? ⟨b,1,none⟩ = false ∧ w.frozen? ⟨b,2,none⟩ = false ∧ w.frozen? ⟨b,3,none⟩ = false:=cells4 h
theorem heap_setCell {w:World} {b o:Nat} {cs:Array Value} {T:TypeId} {fr:Nat × Nat} {v:Value} (h:w.heap[b]? = some (.cells cs T fr)):(w.setCell ⟨b,o,none⟩ v).heap[b]? = some (.cells (cs.setIfInBounds o v) T fr):=by
 simp [World.setCell,Array.getElem?_modify,h]
def put4 (w:World) (b:Nat) (S:W4):World:=(((w.setCell ⟨b,0,none⟩ (.int .u64 (S.a:Int))).setCell ⟨b,1,none⟩ (.int .u64 (S.b:Int))).setCell ⟨b,2,none⟩ (.int .u64 (S.c:Int))).setCell ⟨b,3,none⟩ (.int .u64 (S.d:Int))
theorem Blk.put {w:World} {b:Nat} {S S':W4} (h:Blk w b S):Blk (put4 w b S') b S':=heap_setCell (heap_setCell (heap_setCell (heap_setCell h)))
theorem Blk.other {w:World} {b k:Nat} {S S':W4} (h:Blk w k S) (hne:k ≠ b):Blk (put4 w b S') k S:=by
 unfold put4 Blk
 rw [Below.heap_setCell _ _ _ _ hne,Below.heap_setCell _ _ _ _ hne,Below.heap_setCell _ _ _ _ hne,Below.heap_setCell _ _ _ _ hne]
 exact h
theorem bl_put {B:Nat} {u w:World} (h:Below B u w) {b:Nat} (S:W4) (hb:B ≤ b):Below B u (put4 w b S):=bl_set (bl_set (bl_set (bl_set h _ _ _ hb) _ _ _ hb) _ _ _ hb) _ _ _ hb
theorem size_al (u:World) (o:Obj):(u.alloc o).heap.size = u.heap.size + 1:=by simp
theorem three_blocks (w:World) (o o' o'':Obj):(((w.alloc o).alloc o').alloc o'').heap[w.heap.size]? = some o ∧ (((w.alloc o).alloc o').alloc o'').heap[w.heap.size + 1]? = some o' ∧ (((w.alloc o).alloc o').alloc o'').heap[w.heap.size + 2]? = some o'':=by
 refine ⟨(Below.heap_alloc _ _ _ (by rw [size_al,size_al];omega)).trans (two_blocks w o o').1,(Below.heap_alloc _ _ _ (by rw [size_al,size_al];omega)).trans (two_blocks w o o').2,?_⟩
 have:=heap_new ((w.alloc o).alloc o') o''
 rwa [show ((w.alloc o).alloc o').heap.size = w.heap.size + 2 by simp] at this
theorem four_blocks (w:World) (o o' o'' o3:Obj):((((w.alloc o).alloc o').alloc o'').alloc o3).heap[w.heap.size]? = some o ∧ ((((w.alloc o).alloc o').alloc o'').alloc o3).heap[w.heap.size + 1]? = some o' ∧ ((((w.alloc o).alloc o').alloc o'').alloc o3).heap[w.heap.size + 2]? = some o'' ∧ ((((w.alloc o).alloc o').alloc o'').alloc o3).heap[w.heap.size + 3]? = some o3:=by
 obtain ⟨h1,h2,h3⟩:=three_blocks w o o' o''
 refine ⟨(Below.heap_alloc _ _ _ (by rw [size_al,size_al,size_al];omega)).trans h1,(Below.heap_alloc _ _ _ (by rw [size_al,size_al,size_al];omega)).trans h2,(Below.heap_alloc _ _ _ (by rw [size_al,size_al,size_al];omega)).trans h3,?_⟩
 have:=heap_new (((w.alloc o).alloc o').alloc o'') o3
 rwa [show (((w.alloc o).alloc o').alloc o'').heap.size = w.heap.size + 3 by simp] at this
theorem not_fit (S:W4):Fit4 (notB S):=by unfold notB;exact mkB_fit _
end Go.Proofs.YtbpnioehmohbcaaGreat
namespace Go.Proofs.YtbpnioehmohbcaaGreat
def itemsF:Nat → Bool → W4 → Txt → Option (W4 × Txt)
 | 0,_,_,_ => none
 | n + 1,first,acc,s =>
  if !first && s.head? == some 93 then some (acc,s.tail) else
  match signF leftC s with
  | none => none
  | some (a,s1) =>
   if s1.head? == some 45 then
    match signF leftC s1.tail with
    | none => none
    | some (b,s2) => if b < a then none else itemsF n false (orB acc (spanB a b)) s2
   else itemsF n false (orB acc (spanB a a)) s1
def classF (n:Nat) (s:Txt):Option (W4 × Txt):=
 if s.head? == some 94 then
  match itemsF n true noneB s.tail with
  | none => none
  | some (S,r) => if notB S = noneB then none else some (notB S,r)
 else
  match itemsF n true noneB s with
  | none => none
  | some (S,r) => if S = noneB then none else some (S,r)
end Go.Proofs.YtbpnioehmohbcaaGreat
