/- Layer 1's functions as layer 2 meets them: the contracts of Clone, fits, refusal, gone, Back, topiaryref01.Fits; what an edit makes, over lists of bytes. -/
import Derived.Test.YtnhabinnmkjnbaaRows
import Derived.Test.YtnhabinnmkjnbaaShelf
import Derived.WalkKit
import Derived.WalkSpells
import Derived.Lib.UnsafeStr
import Derived.Lib.SmallJoins
import Derived.BigQuiet
import Derived.Deep.QuietTactic
import Derived.Deep.RegionHeld3
namespace Go.Proofs.Ytnhabinnmkjnbaa
open Go.RowKit

theorem Try.info5 : (Try.prog.info? 5).map (fun i => (i.zero, i.size, i.bytes)) = some (some (.int .u8 0), 1, 1) := by kernel_rfl

set_option maxHeartbeats 400000 in
theorem clone24 (s : ByteArray) (w : World) (hlim : s.size ≤ 281474976710656) :
    Calls Try.prog 22 #[.string s] w fun e w' => e = .returned (.string s) ∧ Below w.heap.size w w' := by
  go_enter Try.func22, Try.ntmps22
  go_wp2_with (go_at_call 33; refine (Try.stringslite_Clone _ _ hlim).mono ?_; rintro e w1 ⟨rfl, hb⟩)
  go_ret
  exact ⟨rfl, hb⟩

def fitsB (l at' n : Int) : Bool := decide (0 ≤ at' ∧ 0 ≤ n ∧ n ≤ l - at')

theorem ret_bool {a b : Bool} (h : a = b) : Ending.returned (.bool a) = .returned (.bool b) := by rw [h]

set_option maxHeartbeats 400000 in
theorem fits28 (s t : ByteArray) (a n : Int) (w : World) (hs : s.size ≤ 9223372036854775807) (ha : a ≤ 9223372036854775807) :
    Calls Try.prog 51 #[.string s, .agg #[.int .i64 a, .int .i64 n, .string t]] w fun e w' => e = .returned (.bool (fitsB s.size a n)) ∧ Below w.heap.size w w' := by
  go_enter Try.func51, Try.ntmps51
  go_wp2
  all_goals go_ret
  all_goals refine ⟨ret_bool ?_, (Below.refl _ _).alloc (Nat.le_refl _) _⟩
  all_goals (unfold fitsB; rw [Bool.eq_iff_iff]; simp; omega)

set_option maxHeartbeats 400000 in
theorem fits23 (s t : ByteArray) (a n : Int) (w : World) (hs : s.size ≤ 9223372036854775807) (ha : a ≤ 9223372036854775807) :
    Calls Try.prog 17 #[.string s, .agg #[.int .i64 a, .int .i64 n, .string t]] w fun e w' => e = .returned (.bool (fitsB s.size a n)) ∧ Below w.heap.size w w' := by
  go_enter Try.func17, Try.ntmps17
  go_wp2
  all_goals go_ret
  all_goals refine ⟨ret_bool ?_, (Below.refl _ _).alloc (Nat.le_refl _) _⟩
  all_goals (unfold fitsB; rw [Bool.eq_iff_iff]; simp; omega)

set_option maxHeartbeats 400000 in
theorem gone25 (s t : ByteArray) (a n : Nat) (w : World) (hs : s.size ≤ 9223372036854775807) (hf : a + n ≤ s.size) :
    Calls Try.prog 48 #[.string s, .agg #[.int .i64 a, .int .i64 n, .string t]] w fun e w' => e = .returned (.string (s.extract a (a + n))) ∧ Below w.heap.size w w' := by
  go_enter Try.func48, Try.ntmps48
  go_wp2
  go_ret
  exact ⟨rfl, (Below.refl _ _).alloc (Nat.le_refl _) _⟩

def madeOf (s t : ByteArray) (a n : Nat) : ByteArray := s.extract 0 a ++ t ++ s.extract (a + n) s.size

theorem bcell {W w1 : World} (hb : Below W.heap.size W w1) : (∀ b o, b < W.heap.size → w1.cell? ⟨b, o, none⟩ = W.cell? ⟨b, o, none⟩) ∧ (∀ b o, b < W.heap.size → w1.frozen? ⟨b, o, none⟩ = W.frozen? ⟨b, o, none⟩) :=
  ⟨fun b o h => hb.cell (p := ⟨b, o, none⟩) h, fun b o h => hb.frozen (p := ⟨b, o, none⟩) h⟩

theorem bl_step {w u w1 : World} (h : Below w.heap.size w u) (hb : Below u.heap.size u w1) : Below w.heap.size w w1 := h.trans (hb.mono h.size)

theorem slice_from (s : ByteArray) (a n : Nat) (hf : a + n ≤ s.size) (u : World) :
    (Instr.slice 9 (.string s) (some (.int .i64 ((a : Int) + (n : Int)))) none none).run Try.prog u = .ok (.string (s.extract (a + n) s.size)) u := by
  rw [run_slice_string_from_if _ _ _ _ _ Try.underlying9, if_pos (by omega)]
  congr 3

theorem slice_to (s : ByteArray) (a : Nat) (hf : a ≤ s.size) (u : World) :
    (Instr.slice 9 (.string s) none (some (.int .i64 (a : Int))) none).run Try.prog u = .ok (.string (s.extract 0 a)) u := by
  rw [run_slice_string_to_if _ _ _ _ _ Try.underlying9, if_pos (by omega)]
  congr 3

def errNo (l a n tl : Int) : Int := if fitsB l a n = true then (if 4000 < l - n + tl then 3 else 0) else 2

def appS (s t : ByteArray) (a n : Int) : ByteArray := if errNo s.size a n t.size = 0 then madeOf s t a.toNat n.toNat else ⟨#[]⟩

set_option maxHeartbeats 400000 in
theorem refusal21 (s t : ByteArray) (a n : Int) (w : World) (hs : s.size ≤ 1000000) (ht : t.size ≤ 1000000) (ha : a ≤ 9223372036854775807) :
    Calls Try.prog 47 #[.string s, .agg #[.int .i64 a, .int .i64 n, .string t]] w fun e w' => e = .returned (.int .i64 (errNo s.size a n t.size)) ∧ Below w.heap.size w w' := by
  cases hf : fitsB s.size a n with
  | false =>
    have he : Hid (errNo s.size a n t.size = 2) := by unfold Hid errNo; rw [hf]; rfl
    go_enter Try.func47, Try.ntmps47
    go_wp2_with (go_at_call 51; refine (fits28 _ _ _ _ _ (by omega) ha).mono ?_; rintro e w1 ⟨rfl, hb⟩; obtain ⟨hc, hfz⟩ := bcell hb)
    go_ret
    exact ⟨by rw [he.out]; rfl, bl_step ((Below.refl _ _).alloc (Nat.le_refl _) _) hb⟩
  | true =>
    have hf' : 0 ≤ a ∧ 0 ≤ n ∧ n ≤ s.size - a := of_decide_eq_true hf
    obtain ⟨f1, f2, f3⟩ := hf'
    by_cases hm : 4000 < (s.size : Int) - n + t.size
    · have he : Hid (errNo s.size a n t.size = 3) := by unfold Hid errNo; rw [hf, if_pos rfl, if_pos hm]
      go_enter Try.func47, Try.ntmps47
      go_wp2_with (go_at_call 51; refine (fits28 _ _ _ _ _ (by omega) ha).mono ?_; rintro e w1 ⟨rfl, hb⟩; obtain ⟨hc, hfz⟩ := bcell hb)
      go_ret
      exact ⟨by rw [he.out]; rfl, bl_step ((Below.refl _ _).alloc (Nat.le_refl _) _) hb⟩
    · have he : Hid (errNo s.size a n t.size = 0) := by unfold Hid errNo; rw [hf, if_pos rfl, if_neg hm]
      go_enter Try.func47, Try.ntmps47
      go_wp2_with (go_at_call 51; refine (fits28 _ _ _ _ _ (by omega) ha).mono ?_; rintro e w1 ⟨rfl, hb⟩; obtain ⟨hc, hfz⟩ := bcell hb)
      go_ret
      exact ⟨by rw [he.out]; rfl, bl_step ((Below.refl _ _).alloc (Nat.le_refl _) _) hb⟩

theorem errNo_bad {l a n tl : Int} (h : fitsB l a n = false) : errNo l a n tl = 2 := by unfold errNo; rw [h]; rfl

theorem errNo_full {l a n tl : Int} (h : fitsB l a n = true) (hm : 4000 < l - n + tl) : errNo l a n tl = 3 := by unfold errNo; rw [h, if_pos rfl, if_pos hm]

theorem errNo_ok {l a n tl : Int} (h : fitsB l a n = true) (hm : ¬ 4000 < l - n + tl) : errNo l a n tl = 0 := by unfold errNo; rw [h, if_pos rfl, if_neg hm]

theorem fitsB_true {l a n : Int} (h : fitsB l a n = true) : 0 ≤ a ∧ 0 ≤ n ∧ n ≤ l - a := of_decide_eq_true h

theorem errNo_cases (l a n tl : Int) : (errNo l a n tl = 0 ∧ fitsB l a n = true ∧ ¬ 4000 < l - n + tl) ∨ (errNo l a n tl = 3 ∧ fitsB l a n = true ∧ 4000 < l - n + tl) ∨ (errNo l a n tl = 2 ∧ fitsB l a n = false) := by
  cases hf : fitsB l a n with
  | false => exact Or.inr (Or.inr ⟨errNo_bad hf, rfl⟩)
  | true =>
    by_cases hm : 4000 < l - n + tl
    · exact Or.inr (Or.inl ⟨errNo_full hf hm, rfl, hm⟩)
    · exact Or.inl ⟨errNo_ok hf hm, rfl, hm⟩

theorem appS_bad {s t : ByteArray} {a n : Int} (h : errNo s.size a n t.size ≠ 0) : appS s t a n = ⟨#[]⟩ := if_neg h

theorem appS_ok {s t : ByteArray} {a n : Int} (h : errNo s.size a n t.size = 0) : appS s t a n = madeOf s t a.toNat n.toNat := if_pos h

/-- what an Apply answers -/
def appV (s t : ByteArray) (a n : Int) : Value := .tuple #[.string (appS s t a n), .int .i64 (errNo s.size a n t.size)]

theorem size_toList (s : ByteArray) : s.data.toList.length = s.size := by rw [Array.length_toList]; rfl

theorem toList_data (s : ByteArray) : s.toList = s.data.toList := ByteArray.toList_eq s

theorem ext_list {s t : ByteArray} (h : s.data.toList = t.data.toList) : s = t := by
  apply ByteArray.ext
  exact Array.toList_inj.1 h

theorem extract_list (s : ByteArray) (a b : Nat) : (s.extract a b).data.toList = (s.data.toList.drop a).take (b - a) := by
  rw [ByteArray.data_extract, Array.toList_extract, List.extract_eq_take_drop]

theorem madeOf_list (s t : ByteArray) (a n : Nat) : (madeOf s t a n).data.toList = s.data.toList.take a ++ t.data.toList ++ s.data.toList.drop (a + n) := by
  unfold madeOf
  rw [ByteArray.data_append, ByteArray.data_append, Array.toList_append, Array.toList_append, extract_list, extract_list, List.drop_zero, Nat.sub_zero]
  congr 1
  rw [List.take_of_length_le]
  rw [List.length_drop, size_toList]; exact Nat.le_refl _

theorem madeOf_size (s t : ByteArray) (a n : Nat) (h : a + n ≤ s.size) : (madeOf s t a n).size = s.size - n + t.size := by
  rw [← size_toList, madeOf_list, List.length_append, List.length_append, List.length_take, List.length_drop, size_toList, size_toList]; omega

theorem parts_list (l : List UInt8) (a n : Nat) : l = l.take a ++ (l.drop a).take n ++ l.drop (a + n) := by
  conv => lhs; rw [← List.take_append_drop a l, ← List.take_append_drop n (l.drop a)]
  rw [List.drop_drop, List.append_assoc]

theorem beq_toList (s t : ByteArray) : (s.toList == t.toList) = decide (s = t) := by
  rw [Bool.eq_iff_iff, beq_iff_eq, decide_eq_true_eq, toList_data, toList_data]
  exact ⟨ext_list, fun h => by rw [h]⟩

theorem extract_size (s : ByteArray) (a n : Nat) (h : a + n ≤ s.size) : (s.extract a (a + n)).size = n := by
  rw [ByteArray.size_extract]; omega

/-- what an edit's way back makes of what the edit makes -/
theorem made_back (s t : ByteArray) (a n : Nat) (h : a + n ≤ s.size) : madeOf (madeOf s t a n) (s.extract a (a + n)) a t.size = s := by
  have hl : (s.data.toList.take a).length = a := by rw [List.length_take, size_toList]; omega
  apply ext_list
  rw [madeOf_list, madeOf_list, extract_list, show a + n - a = n by omega]
  rw [List.append_assoc (s.data.toList.take a), List.take_append_of_le_length (by omega), List.take_of_length_le (by omega)]
  have h2 : (s.data.toList.take a ++ (t.data.toList ++ s.data.toList.drop (a + n))).drop (a + t.size) = s.data.toList.drop (a + n) := by
    rw [← List.drop_drop, List.drop_append_of_le_length (by omega), List.drop_of_length_le (Nat.le_of_eq hl), List.nil_append]
    rw [List.drop_append_of_le_length (by rw [size_toList]; exact Nat.le_refl _), List.drop_of_length_le (by rw [size_toList]; exact Nat.le_refl _), List.nil_append]
  rw [h2]
  exact (parts_list _ _ _).symm

theorem made_extract (s t : ByteArray) (a n : Nat) (h : a + n ≤ s.size) : (madeOf s t a n).extract a (a + t.size) = t := by
  have hl : (s.data.toList.take a).length = a := by rw [List.length_take, size_toList]; omega
  apply ext_list
  rw [extract_list, madeOf_list, show a + t.size - a = t.size by omega, List.append_assoc]
  rw [List.drop_append_of_le_length (by omega), List.drop_of_length_le (Nat.le_of_eq hl), List.nil_append]
  rw [List.take_append_of_le_length (by rw [size_toList]; exact Nat.le_refl _), List.take_of_length_le (by rw [size_toList]; exact Nat.le_refl _)]

theorem keep_cell {u w1 : World} (hb : Below u.heap.size u w1) {b o : Nat} {v : Value} (h : u.cell? ⟨b, o, none⟩ = some v) : w1.cell? ⟨b, o, none⟩ = some v :=
  (hb.cell (p := ⟨b, o, none⟩) (World.block_lt_of_cell? u ⟨b, o, none⟩ h)).trans h

theorem keep_blk {u w1 : World} (hb : Below u.heap.size u w1) {b : Nat} {x : Obj} (h : u.heap[b]? = some x) : w1.heap[b]? = some x :=
  (hb.block b (by
    rcases Nat.lt_or_ge b u.heap.size with h1 | h1
    · exact h1
    · rw [Array.getElem?_eq_none h1] at h; cases h)).trans h

theorem blk_cell {w : World} {b : Nat} {cs : Array Value} {T : TypeId} {fr : Nat × Nat} (h : w.heap[b]? = some (.cells cs T fr)) {o : Nat} {v : Value} (hv : cs[o]? = some v) : w.cell? ⟨b, o, none⟩ = some v := by
  simp [World.cell?, h, hv]

theorem blk_frozen {w : World} {b : Nat} {cs : Array Value} {T : TypeId} (h : w.heap[b]? = some (.cells cs T (0, 0))) (o : Nat) : w.frozen? ⟨b, o, none⟩ = false := by
  simp [World.frozen?, h]

theorem blk_new2 (w : World) (o o' : Obj) : ((w.alloc o).alloc o').heap[w.heap.size + 1]? = some o' := by
  have := heap_alloc_new (w.alloc o) o'; simpa using this

theorem below2 {w : World} {o o' : Obj} : Below w.heap.size w ((w.alloc o).alloc o') := ((Below.refl _ _).alloc (Nat.le_refl _) o).alloc (by simp) o'

def backA (s t : ByteArray) (a n : Nat) : Value := .agg #[.int .i64 a, .int .i64 t.size, .string (s.extract a (a + n))]

set_option maxHeartbeats 1000000 in
theorem back13_ok (s t : ByteArray) (a n : Nat) (w : World) (hs : s.size ≤ 1000000) (ht : t.size ≤ 1000000) (hf : a + n ≤ s.size) (hm : s.size - n + t.size ≤ 4000) :
    Calls Try.prog 38 #[.string s, .agg #[.int .i64 a, .int .i64 n, .string t]] w fun e w' => e = .returned (.tuple #[backA s t a n, .int .i64 0]) ∧ Below w.heap.size w w' := by
  have H21 := fun w => refusal21 s t a n w hs ht (by omega)
  rw [errNo_ok (decide_eq_true (by omega)) (by omega)] at H21
  have G21 := (show Hid _ from H21)
  clear H21
  have G : Hid (∀ w, Calls Try.prog 48 #[.string s, .agg #[.int .i64 (a : Int), .int .i64 (n : Int), .string t]] w fun e w' => e = .returned (.string (s.extract a (a + n))) ∧ Below w.heap.size w w') :=
    fun w => gone25 s t a n w (by omega) hf
  have G24 : Hid (∀ w, Calls Try.prog 22 #[.string (s.extract a (a + n))] w fun e w' => e = .returned (.string (s.extract a (a + n))) ∧ Below w.heap.size w w') :=
    fun w => clone24 _ w (by rw [ByteArray.size_extract]; omega)
  go_enter Try.func38, Try.ntmps38
  go_wp2_with (first
    | (go_at_call 47; refine (G21.out _).mono ?_; rintro e w1 ⟨rfl, hb⟩; have hz1 : w.heap.size + 1 < w1.heap.size := by (have := hb.size; simp at this; omega)))
  have q0 : w1.cell? ⟨w.heap.size, 0, none⟩ = some (.int .i64 a) := keep_cell hb (by simp)
  have q1 : w1.cell? ⟨w.heap.size, 1, none⟩ = some (.int .i64 n) := keep_cell hb (by simp)
  have q2 : w1.cell? ⟨w.heap.size, 2, none⟩ = some (.string t) := keep_cell hb (by simp)
  have B1 : w1.heap[w.heap.size + 1]? = some (.cells #[.int .i64 0, .int .i64 0, .string ⟨#[]⟩] 34) := keep_blk hb (blk_new2 _ _ _)
  go_region_held3 (fun w' => w'.cell? ⟨w.heap.size, 0, none⟩ = some (.int .i64 a) ∧ w'.cell? ⟨w.heap.size, 1, none⟩ = some (.int .i64 n) ∧ w'.cell? ⟨w.heap.size, 2, none⟩ = some (.string t)) (go_keep) ((first
    | (go_at_call 48; refine (G.out _).mono ?_; rintro e w2 ⟨rfl, hb2⟩; have p0 := keep_cell hb2 (by exact q0); have p1 := keep_cell hb2 (by exact q1); have p2 := keep_cell hb2 (by exact q2); have B2 := keep_blk hb2 (by exact B1))
    | (go_at_call 22; refine (G24.out _).mono ?_; rintro e w3 ⟨rfl, hb3⟩; have r0 := keep_cell hb3 (by exact p0); have r1 := keep_cell hb3 (by exact p1); have r2 := keep_cell hb3 (by exact p2); have B3 := keep_blk hb3 (by exact B2); have c0 := blk_cell B3 (o := 0) rfl; have c1 := blk_cell B3 (o := 1) rfl; have c2 := blk_cell B3 (o := 2) rfl; have f0 := blk_frozen B3 0; have f1 := blk_frozen B3 1; have f2 := blk_frozen B3 2)))
  go_wp2
  exact bodyPost_ret (v := .tuple #[.agg #[.int .i64 a, .int .i64 t.size, .string (s.extract a (a + n))], .int .i64 0]) (by simp [results, Try.results38, go_sem, c0, c1, c2]) rfl ⟨rfl, (((bl_step (bl_step (bl_step below2 hb).drew hb2) hb3).setCell (by simp) _).setCell (by simp) _).setCell (by simp) _⟩

set_option maxHeartbeats 400000 in
theorem back13_no (s t : ByteArray) (a n k : Int) (w : World) (hs : s.size ≤ 1000000) (ht : t.size ≤ 1000000) (ha : a ≤ 9223372036854775807) (hk : errNo s.size a n t.size = k) (hne : k ≠ 0) :
    Calls Try.prog 38 #[.string s, .agg #[.int .i64 a, .int .i64 n, .string t]] w fun e w' => e = .returned (.tuple #[.agg #[.int .i64 0, .int .i64 0, .string ⟨#[]⟩], .int .i64 k]) ∧ Below w.heap.size w w' := by
  have H21 := fun w => refusal21 s t a n w hs ht ha
  rw [hk] at H21
  have G21 := (show Hid _ from H21)
  clear H21 hk
  have hne' : (k != 0) = true := by simpa using hne
  go_enter Try.func38, Try.ntmps38
  go_wp2_with (first
    | (go_at_call 47; refine (G21.out _).mono ?_; rintro e w1 ⟨rfl, hb⟩; have B1 : w1.heap[w.heap.size + 1]? = some (.cells #[.int .i64 0, .int .i64 0, .string ⟨#[]⟩] 34) := keep_blk hb (blk_new2 _ _ _); have c0 := blk_cell B1 (o := 0) rfl; have c1 := blk_cell B1 (o := 1) rfl; have c2 := blk_cell B1 (o := 2) rfl; have f0 := blk_frozen B1 0; have f1 := blk_frozen B1 1; have f2 := blk_frozen B1 2))
  exact bodyPost_ret (v := .tuple #[.agg #[.int .i64 0, .int .i64 0, .string ⟨#[]⟩], .int .i64 k]) (by simp [results, Try.results38, go_sem, c0, c1, c2]) rfl ⟨rfl, (((bl_step below2 hb).setCell (by simp) _).setCell (by simp) _).setCell (by simp) _⟩

theorem cells3 {w : World} {b : Nat} {x y z : Value} {T : TypeId} {fr : Nat × Nat} (h : w.heap[b]? = some (.cells #[x, y, z] T fr)) :
    w.cell? ⟨b, 0, none⟩ = some x ∧ w.cell? ⟨b, 1, none⟩ = some y ∧ w.cell? ⟨b, 2, none⟩ = some z := ⟨blk_cell h rfl, blk_cell h rfl, blk_cell h rfl⟩

theorem blk_lt {w : World} {b : Nat} {x : Obj} (h : w.heap[b]? = some x) : b < w.heap.size := by
  rcases Nat.lt_or_ge b w.heap.size with h1 | h1
  · exact h1
  · rw [Array.getElem?_eq_none h1] at h; cases h

theorem blk_alloc {w : World} {b : Nat} {x : Obj} (h : w.heap[b]? = some x) (o : Obj) : (w.alloc o).heap[b]? = some x :=
  (Below.heap_alloc w o b (blk_lt h)).trans h

theorem bl_alloc {w u : World} (h : Below w.heap.size w u) {o : Obj} : Below w.heap.size w (u.alloc o) := h.alloc h.size o

end Go.Proofs.Ytnhabinnmkjnbaa
