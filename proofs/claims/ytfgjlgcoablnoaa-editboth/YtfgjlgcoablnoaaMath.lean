/- What the edits' functions come to, over lists of bytes: no program is walked here. -/
import Derived.Test.YtfgjlgcoablnoaaIdle
namespace Go.Proofs.Ytfgjlgcoablnoaa

theorem size_toList (s : ByteArray) : s.data.toList.length = s.size := by rw [Array.length_toList]; rfl
theorem toList_data (s : ByteArray) : s.toList = s.data.toList := ByteArray.toList_eq s
theorem ext_list {s t : ByteArray} (h : s.data.toList = t.data.toList) : s = t := by
  apply ByteArray.ext
  exact Array.toList_inj.1 h
theorem extract_list (s : ByteArray) (a b : Nat) : (s.extract a b).data.toList = (s.data.toList.drop a).take (b - a) := by
  rw [ByteArray.data_extract, Array.toList_extract, List.extract_eq_take_drop]
theorem madeOf_list (s t : ByteArray) (a n : Nat) : (madeOf s t a n).data.toList = s.data.toList.take a ++ t.data.toList ++ s.data.toList.drop (a + n) := by
  unfold madeOf
  rw [ByteArray.data_append, ByteArray.data_append, Array.toList_append, Array.toList_append, extract_list, extract_list, List.drop_zero, Nat.sub_zero]
  congr 1
  rw [List.take_of_length_le]
  rw [List.length_drop, size_toList]; exact Nat.le_refl _
theorem madeOf_size (s t : ByteArray) (a n : Nat) (h : a + n ≤ s.size) : (madeOf s t a n).size = s.size - n + t.size := by
  rw [← size_toList, madeOf_list, List.length_append, List.length_append, List.length_take, List.length_drop, size_toList, size_toList]; omega
theorem parts_list (l : List UInt8) (a n : Nat) : l = l.take a ++ (l.drop a).take n ++ l.drop (a + n) := by
  conv => lhs; rw [← List.take_append_drop a l, ← List.take_append_drop n (l.drop a)]
  rw [List.drop_drop, List.append_assoc]
theorem made_same (s t : ByteArray) (a n : Nat) : madeOf s t a n = s ↔ s.extract a (a + n) = t := by
  constructor
  · intro h
    have h1 := congrArg (fun b : ByteArray => b.data.toList) h
    simp only [madeOf_list] at h1
    rw [parts_list s.data.toList a n] at h1
    have h2 : t.data.toList = (s.data.toList.drop a).take n := by
      have hp := parts_list s.data.toList a n
      rw [← hp] at h1
      have h3 : s.data.toList.take a ++ t.data.toList ++ s.data.toList.drop (a + n) = s.data.toList.take a ++ (s.data.toList.drop a).take n ++ s.data.toList.drop (a + n) := by rw [h1]; exact hp
      rw [List.append_cancel_right_eq] at h3
      exact List.append_cancel_left h3
    apply ext_list
    rw [extract_list, h2]; congr 1; omega
  · intro h
    apply ext_list
    rw [madeOf_list, ← h, extract_list, show a + n - a = n by omega]
    exact (parts_list _ _ _).symm
theorem beq_toList (s t : ByteArray) : (s.toList == t.toList) = decide (s = t) := by
  rw [Bool.eq_iff_iff, beq_iff_eq, decide_eq_true_eq, toList_data, toList_data]
  exact ⟨ext_list, fun h => by rw [h]⟩

theorem idle_spec (s t : ByteArray) (a n : Int) (hs : s.size ≤ 4000) :
    idleB s t a n = (errNo s.size a n t.size == 0 && ((appS s t a n).toList == s.toList)) := by
  rw [beq_toList]
  unfold idleB
  rw [beq_toList]
  rcases errNo_cases s.size a n t.size with ⟨he, hf, hm⟩ | ⟨he, hf, hm⟩ | ⟨he, hf⟩
  · rw [he, hf, appS_ok he]
    simp only [Bool.true_and, beq_self_eq_true, decide_eq_decide]
    exact (made_same _ _ _ _).symm
  · rw [he, hf]
    obtain ⟨f1, f2, f3⟩ := fitsB_true hf
    have : s.extract a.toNat (a.toNat + n.toNat) ≠ t := by
      intro h
      have h2 := congrArg ByteArray.size h
      rw [ByteArray.size_extract] at h2
      omega
    simp [this]
  · rw [he, hf]
    simp

theorem extract_size (s : ByteArray) (a n : Nat) (h : a + n ≤ s.size) : (s.extract a (a + n)).size = n := by
  rw [ByteArray.size_extract]; omega
/-- what an edit's way back makes of what the edit makes -/
theorem made_back (s t : ByteArray) (a n : Nat) (h : a + n ≤ s.size) : madeOf (madeOf s t a n) (s.extract a (a + n)) a t.size = s := by
  have hl : (s.data.toList.take a).length = a := by rw [List.length_take, size_toList]; omega
  apply ext_list
  rw [madeOf_list, madeOf_list, extract_list, show a + n - a = n by omega]
  rw [List.append_assoc (s.data.toList.take a), List.take_append_of_le_length (by omega), List.take_of_length_le (by omega)]
  have h2 : (s.data.toList.take a ++ (t.data.toList ++ s.data.toList.drop (a + n))).drop (a + t.size) = s.data.toList.drop (a + n) := by
    rw [← List.drop_drop, List.drop_append_of_le_length (by omega), List.drop_of_length_le (Nat.le_of_eq hl), List.nil_append]
    rw [List.drop_append_of_le_length (by rw [size_toList]; exact Nat.le_refl _), List.drop_of_length_le (by rw [size_toList]; exact Nat.le_refl _), List.nil_append]
  rw [h2]
  exact (parts_list _ _ _).symm
theorem made_extract (s t : ByteArray) (a n : Nat) (h : a + n ≤ s.size) : (madeOf s t a n).extract a (a + t.size) = t := by
  have hl : (s.data.toList.take a).length = a := by rw [List.length_take, size_toList]; omega
  apply ext_list
  rw [extract_list, madeOf_list, show a + t.size - a = t.size by omega, List.append_assoc]
  rw [List.drop_append_of_le_length (by omega), List.drop_of_length_le (Nat.le_of_eq hl), List.nil_append]
  rw [List.take_append_of_le_length (by rw [size_toList]; exact Nat.le_refl _), List.take_of_length_le (by rw [size_toList]; exact Nat.le_refl _)]

end Go.Proofs.Ytfgjlgcoablnoaa
