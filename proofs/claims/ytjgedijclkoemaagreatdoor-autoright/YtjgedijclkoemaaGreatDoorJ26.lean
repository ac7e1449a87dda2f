/- What the five laws of layer 17 share, part 26: no statement of its own. -/
import Derived.Test.YtjgedijclkoemaaGreatDoorJ22
import Derived.Test.YtjgedijclkoemaaGreatDoorJ25
import Derived.Test.YtjgedijclkoemaaGreatDoorTie
import Derived.Test.YtjgedijclkoemaaGreatDoorCards
import Derived.Stop.LaidErr
namespace Go.Proofs.YtjgedijclkoemaaGreatDoor
open Go.ChangeShapes Go.WideShapes Go.ChangeAt Go.RowKit
set_option maxRecDepth 20000 in
theorem c4T : Tryz.prog.globalNamed "internal/strconv.uint64pow10" = some 0 := by kernel_rfl
set_option maxRecDepth 20000 in
theorem b6R:(Tryz.prog.globals[0]?).map (·.type)=some 228:=by kernel_rfl
set_option maxRecDepth 20000 in
theorem b7r:Tryz.prog.cellsOf 228=20:=by kernel_rfl
set_option maxRecDepth 20000 in
theorem b7q:Tryz.prog.cellsOf 163=1:=by kernel_rfl
theorem b6H:(Rows.laid_internal_strconv_uint64pow10:DataW Unit)=Lib.tabData .u64 Lib.pow10Tab:=by rfl
set_option maxRecDepth 20000 in
theorem b2d {W : World} (h : laidMetH Tryz.prog [("math/bits.deBruijn32tab", Rows.laid_math_bits_deBruijn32tab), ("math/bits.deBruijn64tab", Rows.laid_math_bits_deBruijn64tab), ("internal/strconv.uint64pow10", Rows.laid_internal_strconv_uint64pow10)] W) : Tab W := by
 rw [MakeChecks.laidMetH_plain _ _ _ (by kernel_rfl)] at h;have h3:=laidMet.tail (laidMet.tail h);rw [b6H] at h3;exact Lib.tabIs_of_head (rest:=[]) c4T b6R Tryz.underlying228 Tryz.underlying163 b7q b7r h3
def c4K:Array Value:=#[.int .u64 1,.int .u64 10,.int .u64 100,.int .u64 1000,.int .u64 10000,.int .u64 100000,.int .u64 1000000,.int .u64 10000000,.int .u64 100000000,.int .u64 1000000000,.int .u64 10000000000,.int .u64 100000000000,.int .u64 1000000000000,.int .u64 10000000000000,.int .u64 100000000000000,.int .u64 1000000000000000,.int .u64 10000000000000000,.int .u64 100000000000000000,.int .u64 1000000000000000000,.int .u64 10000000000000000000]
def c4J:Array Value:=#[.int .u8 0,.int .u8 1,.int .u8 28,.int .u8 2,.int .u8 29,.int .u8 14,.int .u8 24,.int .u8 3,.int .u8 30,.int .u8 22,.int .u8 20,.int .u8 15,.int .u8 25,.int .u8 17,.int .u8 4,.int .u8 8,.int .u8 31,.int .u8 27,.int .u8 13,.int .u8 23,.int .u8 21,.int .u8 19,.int .u8 16,.int .u8 7,.int .u8 26,.int .u8 12,.int .u8 18,.int .u8 6,.int .u8 11,.int .u8 5,.int .u8 10,.int .u8 9]
def c4I:Array Value:=#[.int .u8 0,.int .u8 1,.int .u8 56,.int .u8 2,.int .u8 57,.int .u8 49,.int .u8 28,.int .u8 3,.int .u8 61,.int .u8 58,.int .u8 42,.int .u8 50,.int .u8 38,.int .u8 29,.int .u8 17,.int .u8 4,.int .u8 62,.int .u8 47,.int .u8 59,.int .u8 36,.int .u8 45,.int .u8 43,.int .u8 51,.int .u8 22,.int .u8 53,.int .u8 39,.int .u8 33,.int .u8 30,.int .u8 24,.int .u8 18,.int .u8 12,.int .u8 5,.int .u8 63,.int .u8 55,.int .u8 48,.int .u8 27,.int .u8 60,.int .u8 41,.int .u8 37,.int .u8 16,.int .u8 46,.int .u8 35,.int .u8 44,.int .u8 21,.int .u8 52,.int .u8 32,.int .u8 23,.int .u8 11,.int .u8 54,.int .u8 26,.int .u8 40,.int .u8 15,.int .u8 34,.int .u8 20,.int .u8 31,.int .u8 10,.int .u8 25,.int .u8 14,.int .u8 19,.int .u8 9,.int .u8 13,.int .u8 8,.int .u8 7,.int .u8 6]
def b2R (cs:Array Value):Obj→Obj
 | .cells _ t frozen=>.cells cs t frozen
 | o=>o
noncomputable def B_ (os:Os):World:=
 { World.holding Tryz.prog os ⟨#[],#[],[]⟩ with heap:=(((World.holding Tryz.prog os ⟨#[],#[],[]⟩).heap.modify 0 (b2R c4K)).modify 2 (b2R c4J)).modify 3 (b2R c4I) }
end Go.Proofs.YtjgedijclkoemaaGreatDoor
namespace Go.Proofs.YtjgedijclkoemaaGreatDoor
open Go.RowKit Go.Maps Go.Sort
def exI:Txt:=[116,111,107,101,110,32,97,32,47,97,47,59,32,115,58,32,97,32,115,32,124,32,59]
theorem b4k:(a0w exI).2.2=0:=by decide +kernel
theorem c0l:(rdS exI).settle.err=0:=by decide +kernel
theorem a6B:(t_ exI).prods.length=2:=by decide +kernel
theorem a7W:(t_ exI).nonts.length=1:=by decide +kernel
theorem b7c:(t_ exI).prods.map Pd.left=[2,2]:=by decide +kernel
theorem a1y:b5n (t_ exI)=[(-1,0),(-1,1),(0,0),(0,1),(0,2),(1,0)]:=by decide +kernel
theorem a0U:∀ k (hk:k<(t_ exI).prods.length),(t_ exI).prods[k].left=2:=fun k hk=>by
 have h:((t_ exI).prods.map Pd.left)[k]?=some (t_ exI).prods[k].left:=by rw [List.getElem?_map,List.getElem?_eq_getElem hk];rfl
 rw [b7c] at h;have hk2:=a6B▸hk;rcases k with _ | _ | k
 · exact (Option.some.inj h).symm
 · exact (Option.some.inj h).symm
 · omega
end Go.Proofs.YtjgedijclkoemaaGreatDoor
