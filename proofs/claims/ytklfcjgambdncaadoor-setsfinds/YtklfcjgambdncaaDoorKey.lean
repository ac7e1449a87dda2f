/- The contract of sets.key. -/
import Derived.Test.YtklfcjgambdncaaDoorNums
import Derived.Test.YtklfcjgambdncaaDoorShelf
import Derived.Test.YtklfcjgambdncaaDoorKeyMath
import Derived.Laws.BytesArg
import Derived.Lib.SmallJoins
namespace Go.Proofs.YtklfcjgambdncaaDoor
open Go.RowKit

theorem Tryd.info5 : (Tryd.prog.info? 5).map (fun i => (i.zero, i.size, i.bytes)) = some (some (.int .u8 0), 1, 1) := by kernel_rfl
/-- the table of the powers of ten lies as the program's text lays it -/
def Tab (w : World) : Prop := Lib.TabIs Tryd.prog w "internal/strconv.uint64pow10" .u64 Lib.pow10Tab
theorem Tab.keep {w w' : World} (h : Tab w) (hb : Below w.heap.size w w') : Tab w' := Lib.tabBelow_of_tabIs h w' hb

theorem conv_own {base : Nat} {w : World} {v : Value} (l : List UInt8) (h : w.ownsRow base 5 1 v l.length (Lib.byteCells l)) :
    (convert 57 9 v).run Tryd.prog w = .ok (.string ⟨l.toArray⟩) w := by
  rcases Joins.ownsRow_forms h with ⟨rfl, h0⟩ | ⟨g, cap, rfl⟩
  · have : l = [] := List.eq_nil_of_length_eq_zero h0
    subst this
    exact run_convert_bytes_nil (P := Tryd.prog) w 57 5 Tryd.underlying57 Tryd.underlying5 0 0 9 Tryd.underlying9
  · refine run_convert_bytes_back w 57 9 5 _ cap l Tryd.underlying57 Tryd.underlying5 Tryd.underlying9 ?_
    intro j hj
    exact h.cells rfl j _ (by simp [Lib.byteCells, hj])
theorem below_appE {B : Nat} {w0 wr w2 : World} {v : Value} {n : Nat} {xs : List Value} {o : Obj} (hown : wr.ownsRow B 5 1 v n xs) (hbl : Below B w0 wr) (hB : B ≤ w0.heap.size) (hg : (wr.alloc o).grownBy w2 v.ownBlock) : Below B w0 w2 :=
  (hbl.alloc (Nat.le_trans hB hbl.size) _).grown hg (by have := hbl.size; simp; omega) (fun k hk => (hown.lt k hk).1)

set_option maxHeartbeats 1000000 in
theorem keyC (v : Value) (l : List Int) (w : World) (hl : l.length ≤ 1000) (hF : Fit l) (hA : Nums w v l) (hT : Tab w) :
    Calls Tryd.prog 18 #[v] w fun e w' => e = .returned (.string ⟨(keyB l).toArray⟩) ∧ Below w.heap.size w w' := by
  obtain ⟨i0, hi, hz0, hz1, hz2⟩ := info_parts Tryd.info5
  have G : Hid (∀ (n : Nat) (i : Int) (sv : Value) (xs : List Value) (u : World), -9223372036854775808 ≤ i → i ≤ 9223372036854775807 → n ≤ 1000000 → u.ownsRow w.heap.size 5 1 sv n xs → Below w.heap.size w u →
      Calls Tryd.prog 25 #[sv, .int .i64 i, .int .i64 10] u fun e w' => ∃ v', e = .returned v' ∧ w'.ownsRow w.heap.size 5 1 v' (n + (Lib.itoa i).length) (xs ++ Lib.byteCells (Lib.itoa i)) ∧ Below w.heap.size u w') := fun n i sv xs u h0 h1 hn hown hb =>
    (Tryd.strconv_AppendInt_10 w.heap.size n i h0 h1 sv xs u hown hb.size (by omega) ((Lib.tabBelow_of_tabIs hT).on hb)).mono fun e w' ⟨v', he, ho, hbl, _⟩ => ⟨v', he, ho, hbl⟩
  obtain ⟨aa, ca, rfl, _, _, hA⟩ := hA
  have hA0 := hid hA
  clear hA hT
  go_enter Tryd.func18, Tryd.ntmps18
  go_wp2
  go_loopw [3, 8] (fun v i wr => ∃ k : Nat, k ≤ l.length ∧ i = .int .i64 k ∧ Hid (wr.ownsRow w.heap.size 5 1 v (keyB (l.take k)).length (Lib.byteCells (keyB (l.take k)))) ∧ Below w.heap.size w wr) (fun _ i _ => l.length - (intOf i).toNat)
  case atStart => exact ⟨0, Nat.zero_le _, rfl, hid (World.ownsRow_nil _ _ _ _), Below.refl _ w⟩
  case round =>
    obtain ⟨k, hk, rfl, hO, hbl⟩ := hrel
    by_cases hlt : k < l.length
    · have hltz : (k : Int) < (l.length : Int) := by omega
      obtain ⟨b1, o1, rfl, hb1, hc1⟩ := hA0.out k hlt
      have hd1 := (hbl.cell hb1).trans hc1
      clear hc1
      have hsz := hbl.size
      have hfx := hF l[k] (List.getElem_mem hlt)
      have hkl := keyB_len (l.take k) fun x hx => hF x (List.mem_of_mem_take hx)
      have hil := Lib.itoa_length_le l[k] hfx.1 hfx.2
      have htl : (l.take k).length ≤ k := by rw [List.length_take]; omega
      have hstep : keyB (l.take (k + 1)) = keyB (l.take k) ++ Lib.itoa l[k] ++ [32] := by rw [List.take_succ_eq_append_getElem hlt, keyB_snoc]
      have hstep := hid hstep
      have hx0 := hfx.1
      have hx1 := hfx.2
      have hbytes : Hid ((keyB (l.take k)).length ≤ 22000) := hid (by omega)
      clear hfx hkl htl
      generalize l[k] = x at hd1 hx0 hx1 hil hstep
      generalize keyB (l.take k) = kb at hO hstep hbytes
      have hG := hid (G.out kb.length x u3 (Lib.byteCells kb) wr hx0 hx1 (by have := hbytes.out; omega) hO.out hbl)
      go_wp2_with (first
        | (go_at_call 25; refine (hG.out).mono ?_; rintro e w1 ⟨v1, rfl, hO1, hb1'⟩)
        | (at_builtin; refine wpList_append_own _ rfl _ _ 57 rfl w.heap.size 5 i0 (.int .u8 0) 1 1 Tryd.underlying57 hi hz0 hz1 hz2 rfl (by decide) _ _ _ rfl (hO1.alloc _) ⟨w1.heap.size, 0, none⟩ 1 1 [.int .u8 32] rfl rfl (by intro j u hj; (match j, hj with | 0, hj => simp at hj; subst hj; simp [Addr.add])) (by intro u hu; simp at hu; subst hu; rfl) (by have := hbytes.out; unfold maxLen; omega) (by have := hbytes.out; omega) (by have := hb1'.size; simp; omega) ?_; intro v2 w2 hO2 hg2 _))
      go_wp2
      go_roundw
      case rel =>
        refine ⟨k + 1, by omega, by go_num, hid ?_, below_appE hO1 (hbl.trans hb1') (Nat.le_refl _) hg2⟩
        rw [hstep.out, Lib.byteCells_append, Lib.byteCells_append, List.length_append, List.length_append]
        exact hO2
      case measure => simp [intOf]; omega
    · have hltz : ¬ (k : Int) < (l.length : Int) := by omega
      have hO' := hO.out
      rw [List.take_of_length_le (by omega)] at hO'
      have hcv := conv_own (keyB l) hO'
      have hO1 := hid hO'
      clear hO'
      go_wp2
      go_ret
      exact ⟨rfl, hbl⟩

end Go.Proofs.YtklfcjgambdncaaDoor
