/- The contract of slices.Delete at []api.Edit; latest. -/
import Derived.Test.YtnhabinnmkjnbaaChange
import Derived.Deep.RegionLaw
import Derived.Deep.LoopGhost
namespace Go.Proofs.Ytnhabinnmkjnbaa
open Go.RowKit

theorem info34 : (Try.prog.info? 34).map (fun i => (i.zero, i.size, i.bytes)) = some (some (.agg #[.int .i64 0, .int .i64 0, .string ⟨#[]⟩]), 3, 32) := by kernel_rfl

theorem edCells_append : ∀ (es fs : List Ed), edCells (es ++ fs) = edCells es ++ edCells fs
  | [], _ => rfl
  | e :: es, fs => by simp only [List.cons_append, edCells, edCells_append es fs]
theorem edCells_take : ∀ (es : List Ed) (k : Nat), edCells (es.take k) = (edCells es).take (k * 3)
  | [], k => by simp [edCells]
  | e :: es, 0 => by simp [edCells]
  | e :: es, k + 1 => by rw [show (k + 1) * 3 = k * 3 + 3 by omega]; simp only [List.take_succ_cons, edCells, edCells_take es k]
theorem edCells_drop : ∀ (es : List Ed) (k : Nat), edCells (es.drop k) = (edCells es).drop (k * 3)
  | [], k => by simp [edCells]
  | e :: es, 0 => by simp [edCells]
  | e :: es, k + 1 => by rw [show (k + 1) * 3 = k * 3 + 3 by omega]; simp only [List.drop_succ_cons, edCells, edCells_drop es k]

def zeroEd : Array Value := #[.int .i64 0, .int .i64 0, .string ⟨#[]⟩]
theorem zeroEd_one (n : Nat) : ∀ u ∈ (Builtin.zeroCells zeroEd n).toList, u.oneCell' = true := by
  intro u hu
  simp [Builtin.zeroCells, zeroEd] at hu
  obtain ⟨i, hi, rfl⟩ := hu
  have : i % 3 = 0 ∨ i % 3 = 1 ∨ i % 3 = 2 := by omega
  rcases this with e | e | e <;> simp [e] <;> rfl
theorem zeroEd_length (n : Nat) : (Builtin.zeroCells zeroEd n).toList.length = n * 3 := by
  simp [Builtin.zeroCells, zeroEd]

theorem add_off (g o t : Nat) : (⟨g, o, none⟩ : Addr).add t = ⟨g, o + t, none⟩ := by
  unfold Addr.add
  by_cases ht : t = 0
  · subst ht; rfl
  · rw [if_neg ht]

set_option maxHeartbeats 1000000 in
theorem deleteIs (g cap i j : Nat) (es : List Ed) (w : World) (h : w.ownsRow 0 34 3 (.slice (some ⟨g, 0, none⟩) es.length cap) es.length (edCells es)) (hij : i < j) (hj : j ≤ es.length) :
    Calls Try.prog 39 #[.slice (some ⟨g, 0, none⟩) es.length cap, .int .i64 i, .int .i64 j] w fun e w' => e = .returned (.slice (some ⟨g, 0, none⟩) (i + (es.length - j)) cap) ∧
      w'.ownsRow 0 34 3 (.slice (some ⟨g, 0, none⟩) (i + (es.length - j)) cap) (i + (es.length - j)) (edCells (es.take i ++ es.drop j)) ∧ Kept (oneBlk g) w w' := by
  obtain ⟨i0, hi, hz0, hz1, hz2⟩ := info_parts info34
  obtain ⟨cur, hg, hc1, hc2, hcs, hct⟩ : ∃ cur, w.heap[g]? = some (.cells cur 34 (0, 0)) ∧ es.length ≤ cap ∧ cap ≤ maxLen ∧ cur.size = cap * 3 ∧ cur.toList.take (es.length * 3) = edCells es := by
    rcases h.2 with ⟨h1, _⟩ | ⟨g', cap', cur, h1, _, h3⟩
    · cases h1
    · cases h1; exact ⟨cur, h3⟩
  have hl := edCells_length es
  obtain ⟨news, hnews⟩ : ∃ news, news = edCells (es.drop j) := ⟨_, rfl⟩
  have hnl : news.length = (es.length - j) * 3 := by rw [hnews, edCells_length, List.length_drop]
  have hget : ∀ t u, news[t]? = some u → cur[j * 3 + t]? = some u := by
    intro t u hu
    rw [hnews, edCells_drop, ← hct, List.getElem?_drop] at hu
    rw [List.getElem?_take] at hu
    split at hu
    · simpa using hu
    · cases hu
  obtain ⟨A, hA, hsrc⟩ : ∃ A : Addr, (if cap = j then some (⟨g, 0, none⟩ : Addr) else some ⟨g, j * 3, none⟩) = some A ∧ Hid (∀ t u, news[t]? = some u → w.drew.cell? (A.add t) = some u) := by
    by_cases hcj : cap = j
    · refine ⟨⟨g, 0, none⟩, by simp [hcj], fun t u hu => ?_⟩
      have h0 : news.length = 0 := by rw [hnl]; omega
      rw [List.length_eq_zero_iff.1 h0] at hu
      simp at hu
    · refine ⟨⟨g, j * 3, none⟩, by simp [hcj], fun t u hu => ?_⟩
      rw [add_off]
      exact blk_cell (w := w.drew) hg (hget t u hu)
  have s1 : Hid (news.length = (es.length - j) * 3) := hnl
  have s2 : Hid (∀ u ∈ news, u.oneCell' = true) := by rw [hnews]; exact edCells_one _
  have s3 : Hid (∀ t, t < news.length → (w.drew.cell? ⟨g, 0 + i * 3 + t, none⟩).isSome = true ∧ w.drew.frozen? ⟨g, 0 + i * 3 + t, none⟩ = false) := by
    intro t ht
    have : 0 + i * 3 + t < cur.size := by omega
    exact ⟨by rw [blk_cell (w := w.drew) hg (Array.getElem?_eq_getElem this)]; rfl, blk_frozen (w := w.drew) hg _⟩
  obtain ⟨W1, hW1⟩ : ∃ W1, W1 = w.drew.setCells g (0 + i * 3) news := ⟨_, rfl⟩
  obtain ⟨cs1, g1, z1, l1⟩ := heap_setCells news (0 + i * 3) w.drew cur hg (by omega)
  rw [← hW1] at g1
  have K1 : Kept (oneBlk g) w W1 := by rw [hW1]; exact Kept.setCells (F := oneBlk g) (fun _ => rfl) _ _ (Kept.refl _ _).drew
  obtain ⟨m, hm⟩ : ∃ m, m = i + (es.length - j) := ⟨_, rfl⟩
  have hzl := zeroEd_length (es.length - m)
  obtain ⟨cs2, g2, z2, l2⟩ := heap_setCells (Builtin.zeroCells zeroEd (es.length - m)).toList (m * 3) W1 cs1 g1 (by omega)
  have hcl : ∀ ty, (Builtin.clear_ #[50] ty #[.slice (some ⟨g, m * 3, none⟩) (es.length - m) (cap - m)]).run Try.prog W1 = .ok (.tuple #[]) (W1.setCells g (m * 3) (Builtin.zeroCells zeroEd (es.length - m)).toList) := fun ty =>
    run_clear_rows W1 _ _ ty _ Try.underlying50 Try.zeroValue34 (zeroEd_one _) g (m * 3) _ (by omega)
      (fun t ht => by
        have ht' : t < (es.length - m) * 3 := by rw [← hzl]; exact ht
        rw [blk_cell g1 (Array.getElem?_eq_getElem (show m * 3 + t < cs1.size by omega))]; rfl) (fun t _ => blk_frozen g1 _)
  have hown : w.heap[g]? = some (.cells cur 34 (0, 0)) → (W1.setCells g (m * 3) (Builtin.zeroCells zeroEd (es.length - m)).toList).ownsRow 0 34 3 (.slice (some ⟨g, 0, none⟩) m cap) m (edCells (es.take i ++ es.drop j)) := fun _ => by
    have e1 : cur.toList.take (i * 3) = edCells (es.take i) := by
      rw [edCells_take, ← hct, List.take_take]; congr 1; omega
    refine ⟨by rw [edCells_length, List.length_append, List.length_take, List.length_drop]; omega, .inr ⟨g, cap, cs2, rfl, Nat.zero_le _, g2, by omega, hc2, by omega, ?_⟩⟩
    have hlen : (cs1.toList.take (m * 3)).length = m * 3 := by rw [List.length_take, Array.length_toList]; omega
    rw [l2, List.append_assoc, List.take_append_of_le_length (by omega), List.take_of_length_le (by omega), l1, Nat.zero_add, e1, hnews]
    rw [List.take_append_of_le_length (by rw [List.length_append, edCells_length, edCells_length, List.length_take, List.length_drop]; omega), List.take_of_length_le (by rw [List.length_append, edCells_length, edCells_length, List.length_take, List.length_drop]; omega), ← edCells_append]
  have HO : Hid (_ ∧ Kept (oneBlk g) w (W1.setCells g (m * 3) (Builtin.zeroCells zeroEd (es.length - m)).toList)) := ⟨hown hg, Kept.setCells (F := oneBlk g) (fun _ => rfl) _ _ K1⟩
  have hW : Hid (W1 = w.drew.setCells g (0 + i * 3) news) := hW1
  have hmx : cap ≤ 9223372036854775807 := by unfold maxLen at hc2; omega
  have hic : i ≤ cap := by omega
  have hjc : j ≤ cap := by omega
  have hmc : ¬ cap = m := by omega
  have hml : m ≤ es.length := by omega
  have hmj : i + (es.length - j) = m := hm.symm
  rw [hmj]
  clear hm hown g2 z2 l2 hzl K1 g1 z1 l1 hW1 hget hnews hnl hl hcs hct hg h
  go_enter Try.func39, Try.ntmps39
  go_wp2_with fail
  go_region_law (refine step_append_room rfl (.tmp 22) (.tmp 25) 50 rfl 34 i0 3 Try.underlying50 hi hz1 g 0 i cap (by simp [Act.eval, Act.put]) A (es.length - j) (cap - j) news (by simp [Act.eval, Act.put]) s1.out hsrc.out s2.out (by omega) s3.out ?_; rw [← hW.out])
  go_wp2
  go_ret
  exact ⟨rfl, HO.out.1, HO.out.2⟩

set_option maxHeartbeats 400000 in
theorem deleteNone (g n cap : Nat) (w : World) (hc : n ≤ cap) (_hm : cap ≤ 9223372036854775807) :
    Calls Try.prog 39 #[.slice (some ⟨g, 0, none⟩) n cap, .int .i64 0, .int .i64 0] w fun e w' => e = .returned (.slice (some ⟨g, 0, none⟩) n cap) ∧ w' = w := by
  go_enter Try.func39, Try.ntmps39
  go_wp2
  all_goals (go_ret; exact ⟨rfl, rfl⟩)

set_option maxHeartbeats 400000 in
theorem latestIs (g cap : Nat) (es : List Ed) (w : World) (h : w.ownsRow 0 34 3 (.slice (some ⟨g, 0, none⟩) es.length cap) es.length (edCells es)) (hl : es.length ≤ 33) :
    Calls Try.prog 29 #[.slice (some ⟨g, 0, none⟩) es.length cap] w fun e w' => e = .returned (.slice (some ⟨g, 0, none⟩) (es.drop (es.length - 32)).length cap) ∧
      w'.ownsRow 0 34 3 (.slice (some ⟨g, 0, none⟩) (es.drop (es.length - 32)).length cap) (es.drop (es.length - 32)).length (edCells (es.drop (es.length - 32))) ∧ Kept (oneBlk g) w w' := by
  have hcap : es.length ≤ cap ∧ cap ≤ 9223372036854775807 := by
    rcases h.2 with ⟨h1, _⟩ | ⟨g', cap', cur, h1, _, h3, h4, h5, _⟩
    · cases h1
    · cases h1; unfold maxLen at h5; exact ⟨h4, by omega⟩
  obtain ⟨hc1, hc2⟩ := hcap
  by_cases h33 : es.length = 33
  · have k := deleteIs g cap 0 1 es w h (by omega) (by omega)
    rw [List.take_zero, List.nil_append, h33] at k
    simp only [Nat.zero_add, Nat.add_one_sub_one] at k
    have e : (es.drop (33 - 32)).length = 32 := by rw [List.length_drop]; omega
    rw [h33, e]
    have HD : Hid (Calls Try.prog 39 #[.slice (some ⟨g, 0, none⟩) 33 cap, .int .i64 0, .int .i64 1] w _) := k
    clear k h e h33
    go_enter Try.func29, Try.ntmps29
    go_wp2_with (first | (go_at_call 39; refine HD.out.mono ?_; rintro e w1 ⟨rfl, ho1, hk1⟩))
    go_ret
    exact ⟨rfl, ho1, hk1⟩
  · have hle : ¬ (0 : Int) < (es.length : Int) - 32 := by omega
    have HO : Hid (w.ownsRow 0 34 3 (.slice (some ⟨g, 0, none⟩) es.length cap) es.length (edCells es)) := h
    rw [show es.length - 32 = 0 by omega, List.drop_zero]
    clear h h33
    have hmx : max (0 : Int) ((es.length : Int) - 32) = 0 := by omega
    go_enter Try.func29, Try.ntmps29
    go_wp2_with (first | (go_at_call 39; refine (deleteNone g es.length cap _ hc1 hc2).mono ?_; rintro e w1 ⟨rfl, hw1⟩; subst w1))
    go_ret
    exact ⟨rfl, HO.out, Kept.refl _ _⟩

end Go.Proofs.Ytnhabinnmkjnbaa
