/- The contract of topiaryref01.Apply, where the edit fits and nothing is too long. -/
import Derived.Test.YtnhabinnmkjnbaaBase
import Derived.Lib.SmallJoins
namespace Go.Proofs.Ytnhabinnmkjnbaa
open Go.RowKit

theorem conv_own {base : Nat} {w : World} {v : Value} (l : List UInt8) (h : w.ownsRow base 5 1 v l.length (Lib.byteCells l)) :
    (convert 86 9 v).run Try.prog w = .ok (.string ⟨l.toArray⟩) w := by
  rcases Joins.ownsRow_forms h with ⟨rfl, h0⟩ | ⟨g, cap, rfl⟩
  · have : l = [] := List.eq_nil_of_length_eq_zero h0
    subst this
    exact run_convert_bytes_nil (P := Try.prog) w 86 5 Try.underlying86 Try.underlying5 0 0 9 Try.underlying9
  · refine run_convert_bytes_back w 86 9 5 _ cap l Try.underlying86 Try.underlying5 Try.underlying9 ?_
    intro j hj
    exact h.cells rfl j _ (by simp [Lib.byteCells, hj])

theorem bytes_take_snoc (s : ByteArray) (k : Nat) (h : k < s.size) : Lib.byteCells (s.data.toList.take (k + 1)) = Lib.byteCells (s.data.toList.take k) ++ [.int .u8 (s[k].toNat : Int)] := by
  rw [List.take_succ_eq_append_getElem (by simpa using h), Lib.byteCells_append]; rfl

/-- one byte more: what is below stays -/
theorem below_app {B : Nat} {w0 wr w2 : World} {v : Value} {n : Nat} {xs : List Value} {o : Obj} (hown : wr.ownsRow B 5 1 v n xs) (hbl : Below B w0 wr) (hB : B ≤ w0.heap.size) (hg : (wr.alloc o).grownBy w2 v.ownBlock) : Below B w0 w2 :=
  (hbl.alloc (Nat.le_trans hB hbl.size) _).grown hg (by have := hbl.size; simp; omega) (fun k hk => (hown.lt k hk).1)
theorem below_app0 {B : Nat} {w0 wr w2 : World} {v : Value} {n : Nat} {xs : List Value} (hown : wr.ownsRow B 5 1 v n xs) (hbl : Below B w0 wr) (hB : B ≤ w0.heap.size) (hg : wr.grownBy w2 v.ownBlock) : Below B w0 w2 :=
  hbl.grown hg (Nat.le_trans hB hbl.size) (fun k hk => (hown.lt k hk).1)

/-- what is made, up to a place behind the edit -/
def upTo (s t : ByteArray) (a n k : Nat) : List UInt8 := s.data.toList.take a ++ t.data.toList ++ (s.data.toList.drop (a + n)).take k
theorem upTo_length (s t : ByteArray) (a n k : Nat) (h : a + n + k ≤ s.size) : (upTo s t a n k).length = a + t.size + k := by
  have h1 : s.data.toList.length = s.size := by rw [Array.length_toList]; rfl
  have h2 : t.data.toList.length = t.size := by rw [Array.length_toList]; rfl
  simp only [upTo, List.length_append, List.length_take, List.length_drop, h1, h2]; omega
theorem upTo_snoc (s t : ByteArray) (a n k : Nat) (h : a + n + k < s.size) : Lib.byteCells (upTo s t a n (k + 1)) = Lib.byteCells (upTo s t a n k) ++ [.int .u8 ((s[a + n + k]'h).toNat : Int)] := by
  have h1 : s.data.toList.length = s.size := by rw [Array.length_toList]; rfl
  unfold upTo
  rw [List.take_succ_eq_append_getElem (by rw [List.length_drop, h1]; omega), ← List.append_assoc, Lib.byteCells_append]
  simp only [List.getElem_drop]
  rfl
theorem upTo_all (s t : ByteArray) (a n : Nat) : (⟨(upTo s t a n (s.size - (a + n))).toArray⟩ : ByteArray) = madeOf s t a n := by
  have h1 : s.data.toList.length = s.size := by rw [Array.length_toList]; rfl
  apply ByteArray.ext
  unfold madeOf upTo
  rw [← Array.toList_inj]
  simp only [ByteArray.data_append, ByteArray.data_extract, Array.toList_append, Array.toList_extract, List.extract_eq_take_drop]
  simp only [List.drop_zero, Nat.sub_zero]

set_option maxRecDepth 20000 in
set_option maxHeartbeats 1000000 in
theorem refApplyOk (s t : ByteArray) (a n : Nat) (w : World) (hs : s.size ≤ 1000000) (ht : t.size ≤ 1000000) (hf : a + n ≤ s.size) (hm : s.size - n + t.size ≤ 4000) :
    Calls Try.prog 34 #[.string s, .agg #[.int .i64 a, .int .i64 n, .string t]] w fun e w' => e = .returned (.tuple #[.string (madeOf s t a n), .int .i64 0]) ∧ Below w.heap.size w w' := by
  have H : Hid (∀ w, Calls Try.prog 17 #[.string s, .agg #[.int .i64 (a : Int), .int .i64 (n : Int), .string t]] w fun e w' => e = .returned (.bool true) ∧ Below w.heap.size w w') := by
    intro w
    have h := fits23 s t a n w (by omega) (by omega)
    rwa [show fitsB s.size a n = true from decide_eq_true (by omega)] at h
  obtain ⟨i0, hi, hz0, hz1, hz2⟩ := info_parts Try.info5
  go_enter Try.func34, Try.ntmps34
  go_wp2_with (go_at_call 17; refine (H.out _).mono ?_; rintro e w1 ⟨rfl, hb⟩; obtain ⟨hc, hfz⟩ := bcell hb)
  go_loopw [6, 7] (fun v i wr => ∃ k : Nat, k ≤ a ∧ i = .int .i64 k ∧ wr.ownsRow (w.heap.size + 1) 5 1 v k (Lib.byteCells (s.data.toList.take k)) ∧ Below (w.heap.size + 1) (w.alloc (.cells #[.int .i64 a, .int .i64 n, .string t] 34)) wr) (fun _ i _ => a - (intOf i).toNat)
  case atStart => exact ⟨0, Nat.zero_le _, rfl, World.ownsRow_nil _ _ _ _, by simpa using hb⟩
  case round =>
    obtain ⟨k, hk, rfl, hown, hbl⟩ := hrel
    clear hc hfz
    have hc0 : wr.cell? ⟨w.heap.size, 0, none⟩ = some (.int .i64 a) := (hbl.cell (by exact Nat.lt_succ_self _)).trans (by simp)
    have hc1 : wr.cell? ⟨w.heap.size, 1, none⟩ = some (.int .i64 n) := (hbl.cell (by exact Nat.lt_succ_self _)).trans (by simp)
    have hc2 : wr.cell? ⟨w.heap.size, 2, none⟩ = some (.string t) := (hbl.cell (by exact Nat.lt_succ_self _)).trans (by simp)
    have hsz := hbl.size
    simp only [World.size_alloc] at hsz
    by_cases hlt : k < a
    · have hlt2 : k < s.size := by omega
      go_wp2_with (at_builtin; refine wpList_append_own _ rfl _ _ 86 rfl (w.heap.size + 1) 5 i0 (.int .u8 0) 1 1 Try.underlying86 hi hz0 hz1 hz2 rfl (by decide) _ _ _ rfl (hown.alloc _) ⟨wr.heap.size, 0, none⟩ 1 1 [.int .u8 (s[k].toNat : Int)] rfl rfl ?c1 ?c2 ?c3 ?c4 ?c5 ?_)
      case c1 =>
        intro j u hj
        match j, hj with
        | 0, hj => simp at hj; subst hj; simp [Addr.add]
      case c2 => intro u hu; simp at hu; subst hu; rfl
      case c3 => unfold maxLen; omega
      case c4 => omega
      case c5 => simp; omega
      intro v' w2 hown' hgrow _
      have R := below_app hown hbl (by simp) hgrow
      rw [← bytes_take_snoc s k hlt2] at hown'
      clear hgrow hown hc0 hc1 hc2
      go_wp2
      go_roundw
      case rel => exact ⟨k + 1, by omega, by go_num, hown', R⟩
      case measure => simp [intOf]; omega
    · obtain rfl : k = a := by omega
      have hT : Hid (Lib.byteCells (s.data.toList.take k) ++ Lib.strCells t = Lib.byteCells (upTo s t k n 0)) := by
        unfold Hid upTo; rw [Lib.strCells_eq, ← Lib.byteCells_append]; simp
      go_wp2_with (at_builtin; refine Lib.wpList_append_own_string _ rfl _ _ 86 9 rfl (w.heap.size + 1) 5 i0 Try.underlying86 Try.underlying9 hi hz0 hz1 hz2 _ _ _ rfl hown t rfl ?c1 ?c2 ?c3 ?_)
      case c1 => unfold maxLen; omega
      case c2 => omega
      case c3 => omega
      intro v2 w2 hown2 hgrow2 _
      have R2 := below_app0 hown hbl (by simp) hgrow2
      rw [hT.out] at hown2
      clear hT hgrow2 hown hc0 hc1 hc2 hsz
      have hc0 : w2.cell? ⟨w.heap.size, 0, none⟩ = some (.int .i64 k) := (R2.cell (by exact Nat.lt_succ_self _)).trans (by simp)
      have hc1 : w2.cell? ⟨w.heap.size, 1, none⟩ = some (.int .i64 n) := (R2.cell (by exact Nat.lt_succ_self _)).trans (by simp)
      go_wp2
      clear hc0 hc1
      go_loopw [6, 8] (fun v i wr => ∃ j : Nat, k + n + j ≤ s.size ∧ i = .int .i64 ((k + n + j : Nat) : Int) ∧ wr.ownsRow (w.heap.size + 1) 5 1 v (k + t.size + j) (Lib.byteCells (upTo s t k n j)) ∧ Below (w.heap.size + 1) (w.alloc (.cells #[.int .i64 k, .int .i64 n, .string t] 34)) wr) (fun _ i _ => s.size - (intOf i).toNat)
      case atStart => exact ⟨0, by omega, by go_num, hown2, R2⟩
      case round =>
        clear hown2 R2 hbl
        obtain ⟨j, hj, rfl, hown, hbl⟩ := hrel
        have hsz := hbl.size
        simp only [World.size_alloc] at hsz
        by_cases hlt : k + n + j < s.size
        · go_wp2_with (at_builtin; refine wpList_append_own _ rfl _ _ 86 rfl (w.heap.size + 1) 5 i0 (.int .u8 0) 1 1 Try.underlying86 hi hz0 hz1 hz2 rfl (by decide) _ _ _ rfl (hown.alloc _) ⟨wr.heap.size, 0, none⟩ 1 1 [.int .u8 ((s[k + n + j]'hlt).toNat : Int)] rfl rfl ?c1 ?c2 ?c3 ?c4 ?c5 ?_)
          case c1 =>
            intro j u hj
            match j, hj with
            | 0, hj => simp at hj; subst hj; simp [Addr.add]
          case c2 => intro u hu; simp at hu; subst hu; rfl
          case c3 => unfold maxLen; omega
          case c4 => omega
          case c5 => simp; omega
          intro v' w3 hown' hgrow _
          have R := below_app hown hbl (by simp) hgrow
          rw [← upTo_snoc s t k n j hlt] at hown'
          clear hgrow hown
          go_wp2
          go_roundw
          case rel => exact ⟨j + 1, by omega, by go_num, hown', R⟩
          case measure => simp [intOf]; omega
        · obtain rfl : j = s.size - (k + n) := by omega
          have hl := upTo_length s t k n (s.size - (k + n)) (by omega)
          have hcv := conv_own (upTo s t k n (s.size - (k + n))) (by rw [hl]; exact hown)
          rw [upTo_all s t k n] at hcv
          clear hl
          go_wp2
          go_ret2
          exact ⟨rfl, ((Below.refl _ _).alloc (Nat.le_refl _) _).trans (hbl.mono (Nat.le_succ _))⟩

end Go.Proofs.Ytnhabinnmkjnbaa
