/- What the edit between two texts makes. -/
import Derived.Test.YtfgjlgcoablnoaaDiff
namespace Go.Proofs.Ytfgjlgcoablnoaa

theorem front_ex (a b : ByteArray) : ∀ m k, a.size - k ≤ m → k ≤ a.size → k ≤ b.size → (∀ j (h1 : j < a.size) (h2 : j < b.size), j < k → a[j] = b[j]) → ∃ n, IsFront a b n
  | 0, k, h, k1, k2, hall => ⟨k, k1, k2, hall, fun h1 _ => by omega⟩
  | m + 1, k, h, k1, k2, hall => by
    by_cases hgo : ∃ (h1 : k < a.size) (h2 : k < b.size), a[k] = b[k]
    · obtain ⟨h1, h2, h3⟩ := hgo
      refine front_ex a b m (k + 1) (by omega) (by omega) (by omega) (fun j g1 g2 g => ?_)
      by_cases e : j = k
      · subst e; exact h3
      · exact hall j g1 g2 (by omega)
    · exact ⟨k, front_exit k1 k2 hall hgo⟩
theorem end_ex (a b : ByteArray) : ∀ m k, a.size - k ≤ m → k ≤ a.size → k ≤ b.size → (∀ j (h1 : j < a.size) (h2 : j < b.size), j < k → a[a.size - 1 - j] = b[b.size - 1 - j]) → ∃ n, IsEnd a b n
  | 0, k, h, k1, k2, hall => ⟨k, k1, k2, hall, fun h1 _ => by omega⟩
  | m + 1, k, h, k1, k2, hall => by
    by_cases hgo : ∃ (h1 : k < a.size) (h2 : k < b.size), a[a.size - 1 - k] = b[b.size - 1 - k]
    · obtain ⟨h1, h2, h3⟩ := hgo
      refine end_ex a b m (k + 1) (by omega) (by omega) (by omega) (fun j g1 g2 g => ?_)
      by_cases e : j = k
      · subst e; exact h3
      · exact hall j g1 g2 (by omega)
    · exact ⟨k, end_exit k1 k2 hall hgo⟩
theorem diff_ex (a b : ByteArray) : ∃ f g, IsDiff a b f g := by
  obtain ⟨f, hf⟩ := front_ex a b a.size 0 (by omega) (Nat.zero_le _) (Nat.zero_le _) (fun j _ _ h => absurd h (Nat.not_lt_zero _))
  obtain ⟨g, hg⟩ := end_ex (a.extract f a.size) (b.extract f b.size) _ 0 (Nat.le_refl _) (Nat.zero_le _) (Nat.zero_le _) (fun j _ _ h => absurd h (Nat.not_lt_zero _))
  exact ⟨f, g, hf, hg⟩

theorem getElem_list (s : ByteArray) (j : Nat) (h : j < s.size) : s[j] = s.data.toList[j]'(by rw [size_toList]; exact h) := rfl

theorem front_list {a b : ByteArray} {f : Nat} (h : IsFront a b f) : a.data.toList.take f = b.data.toList.take f := by
  obtain ⟨f1, f2, f3, _⟩ := h
  apply List.ext_getElem
  · rw [List.length_take, List.length_take, size_toList, size_toList]; omega
  · intro j h1 h2
    rw [List.getElem_take, List.getElem_take]
    rw [List.length_take, size_toList] at h1
    exact f3 j (by omega) (by omega) (by omega)
theorem end_list {a b : ByteArray} {g : Nat} (h : IsEnd a b g) : a.data.toList.drop (a.size - g) = b.data.toList.drop (b.size - g) := by
  obtain ⟨g1, g2, g3, _⟩ := h
  apply List.ext_getElem
  · rw [List.length_drop, List.length_drop, size_toList, size_toList]; omega
  · intro j h1 h2
    rw [List.getElem_drop, List.getElem_drop]
    rw [List.length_drop, size_toList] at h1
    have h := g3 (g - 1 - j) (by omega) (by omega) (by omega)
    rw [getElem_list, getElem_list] at h
    have e1 : a.size - 1 - (g - 1 - j) = a.size - g + j := by omega
    have e2 : b.size - 1 - (g - 1 - j) = b.size - g + j := by omega
    simp only [e1, e2] at h
    exact h

theorem diff_sizes {a b : ByteArray} {f g : Nat} (h : IsDiff a b f g) : f + g ≤ a.size ∧ f + g ≤ b.size := by
  have f1 := h.1.1
  have f2 := h.1.2.1
  have g1 := h.2.1
  have g2 := h.2.2.1
  rw [ByteArray.size_extract] at g1 g2
  omega
/-- the edit between two texts makes the one of the other -/
theorem diff_makes {a b : ByteArray} {f g : Nat} (h : IsDiff a b f g) : madeOf a (b.extract f (b.size - g)) f (a.size - f - g) = b := by
  obtain ⟨z1, z2⟩ := diff_sizes h
  have hF := front_list h.1
  have hE := end_list h.2
  rw [extract_list, extract_list, ByteArray.size_extract, ByteArray.size_extract, Nat.min_self, Nat.min_self] at hE
  rw [List.take_of_length_le (by rw [List.length_drop, size_toList]; exact Nat.le_refl _), List.take_of_length_le (by rw [List.length_drop, size_toList]; exact Nat.le_refl _), List.drop_drop, List.drop_drop] at hE
  apply ext_list
  rw [madeOf_list, extract_list, hF]
  rw [show f + (a.size - f - g) = f + (a.size - f - g) from rfl, hE, show b.size - g - f = b.size - f - g by omega]
  have hp := parts_list b.data.toList f (b.size - f - g)
  exact hp.symm
theorem diff_size {b : ByteArray} {f g : Nat} (h : f + g ≤ b.size) : (b.extract f (b.size - g)).size = b.size - f - g := by
  rw [ByteArray.size_extract]; omega
theorem diff_err {a b : ByteArray} {f g : Nat} (h : IsDiff a b f g) (hb : b.size ≤ 4000) : errNo a.size f (a.size - f - g : Nat) (b.extract f (b.size - g)).size = 0 := by
  obtain ⟨z1, z2⟩ := diff_sizes h
  have z3 := diff_size z2
  exact errNo_ok (decide_eq_true (by omega)) (by omega)
theorem diff_app {a b : ByteArray} {f g : Nat} (h : IsDiff a b f g) (hb : b.size ≤ 4000) : appS a (b.extract f (b.size - g)) f (a.size - f - g : Nat) = b := by
  rw [appS_ok (diff_err h hb), Int.toNat_natCast, Int.toNat_natCast]
  exact diff_makes h
theorem diff_idle {a b : ByteArray} {f g : Nat} (h : IsDiff a b f g) (ha : a.size ≤ 4000) (hb : b.size ≤ 4000) :
    idleB a (b.extract f (b.size - g)) f (a.size - f - g : Nat) = (a.toList == b.toList) := by
  rw [idle_spec a _ f _ ha, diff_app h hb, diff_err h hb, beq_toList, beq_toList]
  simp only [beq_self_eq_true, Bool.true_and, decide_eq_decide]
  exact ⟨fun e => e.symm, fun e => e.symm⟩

end Go.Proofs.Ytfgjlgcoablnoaa
