/- A text as it lies in memory; the contract of stand. -/
import Derived.Test.YtnhabinnmkjnbaaAtom
namespace Go.Proofs.Ytnhabinnmkjnbaa
open Go.RowKit

structure Ed where
  a : Int
  n : Int
  t : ByteArray

def edCells : List Ed → List Value
  | [] => []
  | e :: es => .int .i64 e.a :: .int .i64 e.n :: .string e.t :: edCells es

theorem edCells_length : ∀ es : List Ed, (edCells es).length = es.length * 3
  | [] => rfl
  | e :: es => by simp only [edCells, List.length_cons, edCells_length es]; omega

theorem edCells_one : ∀ es : List Ed, ∀ u ∈ edCells es, u.oneCell' = true
  | [], _, h => by cases h
  | e :: es, u, h => by
    simp only [edCells, List.mem_cons] at h
    rcases h with rfl | rfl | rfl | h
    · rfl
    · rfl
    · rfl
    · exact edCells_one es u h

theorem edCells_at : ∀ (es : List Ed) (j : Nat) (h : j < es.length), (edCells es)[j * 3]? = some (.int .i64 es[j].a) ∧ (edCells es)[j * 3 + 1]? = some (.int .i64 es[j].n) ∧ (edCells es)[j * 3 + 2]? = some (.string es[j].t)
  | [], j, h => absurd h (Nat.not_lt_zero _)
  | e :: es, 0, h => ⟨rfl, rfl, rfl⟩
  | e :: es, j + 1, h => by
    have k := edCells_at es j (by simpa using h)
    have e1 : (j + 1) * 3 = j * 3 + 3 := by omega
    simp only [e1, List.getElem_cons_succ]
    exact k

def total (ps : List ByteArray) : Nat := (ps.map ByteArray.size).sum
def joinB (ps : List ByteArray) : ByteArray := ⟨(ps.flatMap (·.data.toList)).toArray⟩
theorem joinB_size (ps : List ByteArray) : (joinB ps).size = total ps := by
  rw [← size_toList]
  unfold joinB total
  rw [List.toList_toArray, List.length_flatMap]
  congr 1
theorem joinB_one (p : ByteArray) : joinB [p] = p := by
  apply ext_list; simp [joinB]
theorem joinB_three (s t : ByteArray) (a n : Nat) : joinB [s.extract 0 a, t, s.extract (a + n) s.size] = madeOf s t a n := by
  apply ext_list
  rw [madeOf_list]
  simp only [joinB, List.flatMap_cons, List.flatMap_nil, List.append_nil, List.toList_toArray, extract_list, List.drop_zero, Nat.sub_zero, List.append_assoc]
  congr 2
  rw [List.take_of_length_le]
  rw [List.length_drop, size_toList]; exact Nat.le_refl _

structure TextAt (w : World) (tb pb : Nat) (ps : List ByteArray) (uv rv : Value) (us rs : List Ed) : Prop where
  head : w.heap[tb]? = some (.cells #[.slice (some ⟨pb, 0, none⟩) ps.length ps.length, .int .i64 ((total ps : Nat) : Int), .int .u32 (bit (decide (ps.length = 1))), uv, rv] 61 (0, 0))
  row : w.heap[pb]? = some (.cells (ps.map Value.string).toArray 9 (0, 0))
  undo : w.ownsRow 0 34 3 uv us.length (edCells us)
  redo : w.ownsRow 0 34 3 rv rs.length (edCells rs)
  apart : ∀ k, uv.ownBlock = some k → rv.ownBlock = some k → False
  small : total ps ≤ 4000
  few : 0 < ps.length ∧ ps.length ≤ 3

theorem total_take {ps : List ByteArray} {k : Nat} (h : k < ps.length) : total (ps.take (k + 1)) = total (ps.take k) + ps[k].size := by
  unfold total
  rw [List.take_succ_eq_append_getElem h, List.map_append, List.sum_append]
  simp only [List.map_cons, List.map_nil, List.sum_cons, List.sum_nil, Nat.add_zero]
theorem total_take_le (ps : List ByteArray) (k : Nat) : total (ps.take k) ≤ total ps := by
  unfold total
  conv => rhs; rw [← List.take_append_drop k ps, List.map_append, List.sum_append]
  exact Nat.le_add_right _ _

set_option maxHeartbeats 1000000 in
theorem standIs (tb pb : Nat) (ps : List ByteArray) (x y z uv rv : Value) (w : World) (hh : w.heap[tb]? = some (.cells #[x, y, z, uv, rv] 61 (0, 0)))
    (hr : w.heap[pb]? = some (.cells (ps.map Value.string).toArray 9 (0, 0))) (hs : total ps ≤ 1000000) (hn : ps.length ≤ 3) :
    Calls Try.prog 21 #[.pointer (some ⟨tb, 0, none⟩), .slice (some ⟨pb, 0, none⟩) ps.length ps.length] w fun e w' => e = .returned (.tuple #[]) ∧
      (w'.heap[tb]? = some (.cells #[.slice (some ⟨pb, 0, none⟩) ps.length ps.length, .int .i64 ((total ps : Nat) : Int), .int .u32 (bit (decide (ps.length = 1))), uv, rv] 61 (0, 0)) ∧ Kept (oneBlk tb) w w') := by
  have hc : Hid (∀ k (h : k < ps.length), w.cell? ⟨pb, k, none⟩ = some (.string ps[k])) := fun k h => blk_cell hr (by simp [h])
  have h0 := blk_cell hh (o := 0) rfl
  have f0 := blk_frozen hh 0
  have HH : Hid (w.heap[tb]? = some (.cells #[x, y, z, uv, rv] 61 (0, 0))) := hh
  have hone : Hid (((ps.length : Int) == 1) = decide (ps.length = 1)) := by unfold Hid; rw [Bool.eq_iff_iff, beq_iff_eq, decide_eq_true_eq]; omega
  clear hr hh
  go_enter Try.func21, Try.ntmps21
  go_wp2
  go_loop [4, 9] (fun v i => ∃ k : Nat, k ≤ ps.length ∧ i = .int .i64 k ∧ v = .int .i64 ((total (ps.take k) : Nat) : Int)) (fun _ i => ps.length - (intOf i).toNat)
  case atStart => exact ⟨0, Nat.zero_le _, rfl, by simp [total]⟩
  case round =>
    obtain ⟨k, hk, rfl, rfl⟩ := hrel
    by_cases hlt : k < ps.length
    · have hck := hc.out k hlt
      have ht := total_take hlt
      have hle := total_take_le ps (k + 1)
      have hlt' : (k : Int) < ps.length := by omega
      go_wp2
      go_round
      case rel => exact ⟨k + 1, by omega, by go_num, by rw [ht]; go_num⟩
      case measure => simp [intOf]; omega
    · obtain rfl : k = ps.length := by omega
      rw [List.take_length]
      go_wp2_with (first
        | (go_at_call 31; refine (storeI tb 1 _ y _ (blk_cell (heap_setCell HH.out) rfl) (blk_frozen (heap_setCell HH.out) 1)).mono ?_; rintro e w1 ⟨rfl, rfl⟩)
        | (go_at_call 32; refine (storeB tb 2 _ z _ (blk_cell (heap_setCell (heap_setCell HH.out)) rfl) (blk_frozen (heap_setCell (heap_setCell HH.out)) 2)).mono ?_; rintro e w2 ⟨rfl, rfl⟩))
      go_end0
      rw [hone.out]
      refine ⟨rfl, ?_, ?_⟩
      · have := heap_setCell (o := 2) (v := .int .u32 (bit (decide (ps.length = 1)))) (heap_setCell (o := 1) (v := .int .i64 ((total ps : Nat) : Int)) (heap_setCell (o := 0) (v := .slice (some ⟨pb, 0, none⟩) ps.length ps.length) HH.out))
        exact this
      · exact ((((Kept.refl (oneBlk tb) w).setCell (a := ⟨tb, 0, none⟩) fun _ => rfl).setCell (a := ⟨tb, 1, none⟩) fun _ => rfl).setCell (a := ⟨tb, 2, none⟩) fun _ => rfl).drew

end Go.Proofs.Ytnhabinnmkjnbaa
