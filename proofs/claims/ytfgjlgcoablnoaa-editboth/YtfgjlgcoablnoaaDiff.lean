/- The contracts of edit.Diff and topiaryref01.Diff. -/
import Derived.Test.YtfgjlgcoablnoaaFront
import Derived.Test.YtfgjlgcoablnoaaBack
namespace Go.Proofs.Ytfgjlgcoablnoaa
open Go.RowKit

/-- f and g are the lengths of the two texts' common beginning, and of the common end of what is left behind it -/
def IsDiff (a b : ByteArray) (f g : Nat) : Prop := IsFront a b f ∧ IsEnd (a.extract f a.size) (b.extract f b.size) g
theorem IsDiff.one {a b : ByteArray} {f g f' g' : Nat} (h : IsDiff a b f g) (h' : IsDiff a b f' g') : f = f' ∧ g = g' := by
  obtain rfl := h.1.one h'.1
  exact ⟨rfl, h.2.one h'.2⟩
def diffA (a b : ByteArray) (f g : Nat) : Value := .agg #[.int .i64 f, .int .i64 ((a.size - f - g : Nat) : Int), .string (b.extract f (b.size - g))]

theorem slice_from0 (s : ByteArray) (a : Nat) (hf : a ≤ s.size) (u : World) :
    (Instr.slice 9 (.string s) (some (.int .i64 (a : Int))) none none).run Try.prog u = .ok (.string (s.extract a s.size)) u := by
  rw [run_slice_string_from_if _ _ _ _ _ Try.underlying9, if_pos (by omega)]
  congr 3
theorem blk_new1 (w : World) (o : Obj) : (w.alloc o).heap[w.heap.size]? = some o := heap_alloc_new w o
theorem below_an {w : World} {o : Obj} {q : Nat} : Below w.heap.size w ((w.alloc o).drewN q) := by
  have h := (Below.refl w.heap.size w).alloc (Nat.le_refl _) o
  exact ⟨h.os, h.tape, h.output, h.size, h.block⟩
theorem below_drewN {w : World} (q : Nat) : Below w.heap.size w (w.drewN q) := ⟨rfl, rfl, rfl, Nat.le_refl _, fun _ _ => rfl⟩

set_option maxHeartbeats 1000000 in
theorem diff17 (a b : ByteArray) (w : World) (ha : a.size ≤ 1000000) (hb : b.size ≤ 1000000) :
    Calls Try.prog 17 #[.string a, .string b] w fun e w' => ∃ f g : Nat, e = .returned (diffA a b f g) ∧ IsDiff a b f g ∧ Below w.heap.size w w' := by
  go_enter Try.func17, Try.ntmps17
  go_wp2_with (go_at_call 26; refine (sameFront26 a b _ ha hb).mono ?_; rintro e w1 ⟨f, q, rfl, hF, rfl⟩)
  have f1 := hF.1
  have f2 := hF.2.1
  have s1 := slice_from0 a f f1
  have s2 := slice_from0 b f f2
  have HF := (show Hid _ from hF)
  clear hF
  go_region_held3 (fun _ => True) (go_keep) ((go_at_call 27; refine (sameEnd27 (a.extract f a.size) (b.extract f b.size) _ (by rw [ByteArray.size_extract]; omega) (by rw [ByteArray.size_extract]; omega)).mono ?_; rintro e w2 ⟨g, q2, rfl, hE, rfl⟩; have g1 := hE.1; have g2 := hE.2.1; have HE := (show Hid _ from hE); clear hE))
  rw [ByteArray.size_extract] at g1 g2
  have hsz : Hid ((b.extract f (b.size - g)).size ≤ 281474976710656) := by unfold Hid; rw [ByteArray.size_extract]; omega
  go_wp2_with (go_at_call 24; refine (clone24 _ _ hsz.out).mono ?_; rintro e w3 ⟨rfl, hb3⟩; have B1 : w3.heap[w.heap.size]? = some (.cells #[.int .i64 0, .int .i64 0, .string ⟨#[]⟩] 23) := keep_blk hb3 (by exact blk_new1 w _); have c0 := blk_cell B1 (o := 0) rfl; have c1 := blk_cell B1 (o := 1) rfl; have c2 := blk_cell B1 (o := 2) rfl; have r0 := blk_frozen B1 0; have r1 := blk_frozen B1 1; have r2 := blk_frozen B1 2)
  have hv : diffA a b f g = .agg #[.int .i64 f, .int .i64 ((a.size : Int) - g - f), .string (b.extract f (b.size - g))] := by
    unfold diffA; rw [show ((a.size - f - g : Nat) : Int) = (a.size : Int) - g - f by omega]
  refine bodyPost_ret (v := .agg #[.int .i64 f, .int .i64 ((a.size : Int) - g - f), .string (b.extract f (b.size - g))]) (by simp [results, Try.results17, go_sem, c0, c1, c2]) rfl ⟨f, g, by rw [hv], ⟨HF.out, HE.out⟩, ?_⟩
  exact (((bl_step (((Below.refl _ _).alloc (Nat.le_refl _) _).trans ((below_drewN _).mono (by simp))) hb3).setCell (Nat.le_refl _) _).setCell (Nat.le_refl _) _).setCell (Nat.le_refl _) _

theorem front_exit {a b : ByteArray} {k : Nat} (k1 : k ≤ a.size) (k2 : k ≤ b.size) (hall : ∀ j (h1 : j < a.size) (h2 : j < b.size), j < k → a[j] = b[j])
    (h : ¬ ∃ (h1 : k < a.size) (h2 : k < b.size), a[k] = b[k]) : IsFront a b k := ⟨k1, k2, hall, fun h1 h2 e => h ⟨h1, h2, e⟩⟩
theorem end_exit {a b : ByteArray} {k : Nat} (k1 : k ≤ a.size) (k2 : k ≤ b.size) (hall : ∀ j (h1 : j < a.size) (h2 : j < b.size), j < k → a[a.size - 1 - j] = b[b.size - 1 - j])
    (h : ¬ ∃ (h1 : k < a.size) (h2 : k < b.size), a[a.size - 1 - k] = b[b.size - 1 - k]) : IsEnd a b k := ⟨k1, k2, hall, fun h1 h2 e => h ⟨h1, h2, e⟩⟩

theorem front_index (s : ByteArray) (k : Nat) (h : k < s.size) (hs : s.size ≤ 1000000) (u : World) :
    (Instr.index 9 (.string s) (.int .i64 (IntKind.i64.wrap ((k : Int) + 1 - 1)))).run Try.prog u = .ok (.int .u8 (s[k].toNat : Int)) u := by
  have h1 : IntKind.i64.wrap ((k : Int) + 1 - 1) = (k : Int) := by
    rw [IntWalk.i64_left, IntWalk.wrap64_in _ (by omega)]; omega
  rw [h1, run_index_string _ _ _ _ _ Try.underlying9, dif_pos (by omega)]
  simp
theorem back_index (s : ByteArray) (k : Nat) (h : k < s.size) (hs : s.size ≤ 1000000) (u : World) :
    (Instr.index 9 (.string s) (.int .i64 (IntKind.i64.wrap ((s.size : Int) - ((k : Int) + 1))))).run Try.prog u = .ok (.int .u8 (s[s.size - 1 - k].toNat : Int)) u := by
  have h1 : IntKind.i64.wrap ((s.size : Int) - ((k : Int) + 1)) = ((s.size - 1 - k : Nat) : Int) := by
    rw [IntWalk.i64_left, IntWalk.wrap64_in _ (by omega)]; omega
  rw [h1, run_index_string _ _ _ _ _ Try.underlying9, dif_pos (by omega)]
  simp
theorem byte_eq' {x y : UInt8} (h : x = y) : ((x.toNat : Int) != (y.toNat : Int)) = false := by subst h; simp
theorem byte_ne' {x y : UInt8} (h : x ≠ y) : ((x.toNat : Int) != (y.toNat : Int)) = true := by
  rw [bne_iff_ne]; intro e; apply h; apply UInt8.toNat_inj.1; omega

theorem exits_end {x y : ByteArray} {j : Nat} (h : ¬ ∃ (h1 : j < x.size) (h2 : j < y.size), x[x.size - 1 - j] = y[y.size - 1 - j]) (j1 : j ≤ x.size) (j2 : j ≤ y.size) :
    (j = x.size) ∨ (j < x.size ∧ j = y.size) ∨ ∃ (h1 : j < x.size) (h2 : j < y.size), x[x.size - 1 - j] ≠ y[y.size - 1 - j] := by
  rcases Nat.lt_or_ge j x.size with h1 | h1
  · rcases Nat.lt_or_ge j y.size with h2 | h2
    · exact Or.inr (Or.inr ⟨h1, h2, fun e => h ⟨h1, h2, e⟩⟩)
    · exact Or.inr (Or.inl ⟨h1, by omega⟩)
  · exact Or.inl (by omega)
theorem diff_value {a b x y : ByteArray} {k j : Nat} (_hx : x = a.extract k a.size) (hy : y = b.extract k b.size) (zx : x.size = a.size - k) (zy : y.size = b.size - k) (j1 : j ≤ x.size) (j2 : j ≤ y.size) :
    diffA a b k j = .agg #[.int .i64 k, .int .i64 ((x.size : Int) - j), .string (y.extract 0 (y.size - j))] := by
  have h1 : ((a.size - k - j : Nat) : Int) = (x.size : Int) - j := by omega
  have h2 : b.extract k (b.size - j) = y.extract 0 (y.size - j) := by
    apply ext_list
    rw [extract_list, extract_list, hy, extract_list, List.drop_zero, List.take_take, ← hy]
    congr 1
    omega
  unfold diffA
  rw [h1, h2]

set_option maxHeartbeats 4000000 in
theorem refDiff18 (a b : ByteArray) (w : World) (ha : a.size ≤ 1000000) (hb : b.size ≤ 1000000) :
    Calls Try.prog 18 #[.string a, .string b] w fun e w' => ∃ f g : Nat, e = .returned (diffA a b f g) ∧ IsDiff a b f g ∧ Below w.heap.size w w' := by
  go_enter Try.func18, Try.ntmps18
  go_wp2
  go_loopw [5, 6] (fun t i wr => ∃ k q : Nat, t = .int .i64 k ∧ i = .int .i64 ((k : Int) + 1) ∧ k ≤ a.size ∧ k ≤ b.size ∧ (∀ j (h1 : j < a.size) (h2 : j < b.size), j < k → a[j] = b[j]) ∧ wr = (w.alloc (.cells #[.int .i64 0, .int .i64 0, .string ⟨#[]⟩] 23)).drewN q) (fun t _ _ => a.size - (intOf t).toNat)
  case atStart => exact ⟨0, 0, rfl, rfl, Nat.zero_le _, Nat.zero_le _, fun j _ _ h => absurd h (Nat.not_lt_zero _), rfl⟩
  case round =>
    obtain ⟨k, q, rfl, rfl, k1, k2, hall, rfl⟩ := hrel
    have HA := (show Hid _ from hall)
    clear hall
    by_cases hgo : ∃ (h1 : k < a.size) (h2 : k < b.size), a[k] = b[k]
    · obtain ⟨h1, h2, h3⟩ := hgo
      have h1' : ((k : Int) + 1) ≤ a.size := by omega
      have h2' : ((k : Int) + 1) ≤ b.size := by omega
      have h3' := byte_eq' h3
      have H3 := (show Hid _ from h3)
      clear h3
      have x1 := front_index a k h1 ha
      have x2 := front_index b k h2 hb
      go_wp2_with fail
      go_quiet (fail)
      go_wp2
      go_roundw
      case rel => exact ⟨k + 1, q + nq, by go_num, by go_num, by omega, by omega, fun j g1 g2 g => by
        by_cases e : j = k
        · subst e; exact H3.out
        · exact HA.out j g1 g2 (by omega), by simp⟩
      case measure => simp [intOf]; omega
    · have HF : Hid (IsFront a b k) := front_exit k1 k2 HA.out hgo
      have hex : (k = a.size) ∨ (k < a.size ∧ k = b.size) ∨ ∃ (h1 : k < a.size) (h2 : k < b.size), a[k] ≠ b[k] := by
        rcases Nat.lt_or_ge k a.size with h1 | h1
        · rcases Nat.lt_or_ge k b.size with h2 | h2
          · exact Or.inr (Or.inr ⟨h1, h2, fun e => hgo ⟨h1, h2, e⟩⟩)
          · exact Or.inr (Or.inl ⟨h1, by omega⟩)
        · exact Or.inl (by omega)
      clear hgo
      have s1 := slice_from0 a k k1
      have s2 := slice_from0 b k k2
      obtain ⟨x, hx⟩ : ∃ x, x = a.extract k a.size := ⟨_, rfl⟩
      obtain ⟨y, hy⟩ : ∃ y, y = b.extract k b.size := ⟨_, rfl⟩
      have zx : x.size = a.size - k := by rw [hx, ByteArray.size_extract]; omega
      have zy : y.size = b.size - k := by rw [hy, ByteArray.size_extract]; omega
      rw [← hx] at s1
      rw [← hy] at s2
      have bx : x.size ≤ 1000000 := by omega
      have by' : y.size ≤ 1000000 := by omega
      have HX := (show Hid _ from hx)
      have HY := (show Hid _ from hy)
      have ZX := (show Hid _ from zx)
      have ZY := (show Hid _ from zy)
      clear hx hy zx zy
      rcases hex with h1 | ⟨h1, h2⟩ | ⟨h1, h2, h3⟩
      · have h1' : decide (((k : Int) + 1) ≤ a.size) = false := by simp; omega
        clear h1
        go_wp2
        go_loopw [9, 10] (fun t i wr => ∃ j q : Nat, t = .int .i64 j ∧ i = .int .i64 ((j : Int) + 1) ∧ j ≤ x.size ∧ j ≤ y.size ∧ (∀ l (h1 : l < x.size) (h2 : l < y.size), l < j → x[x.size - 1 - l] = y[y.size - 1 - l]) ∧ wr = (w.alloc (.cells #[.int .i64 0, .int .i64 0, .string ⟨#[]⟩] 23)).drewN q) (fun t _ _ => x.size - (intOf t).toNat)
        case atStart => exact ⟨0, _, rfl, rfl, Nat.zero_le _, Nat.zero_le _, fun j _ _ h => absurd h (Nat.not_lt_zero _), rfl⟩
        case round =>
          obtain ⟨j, q5, rfl, rfl, j1, j2, hall, rfl⟩ := hrel
          have HB := (show Hid _ from hall)
          clear hall
          by_cases hgo : ∃ (h1 : j < x.size) (h2 : j < y.size), x[x.size - 1 - j] = y[y.size - 1 - j]
          · obtain ⟨g1, g2, g3⟩ := hgo
            have g1' : ((j : Int) + 1) ≤ x.size := by omega
            have g2' : ((j : Int) + 1) ≤ y.size := by omega
            have g3' := byte_eq' g3
            have H3 := (show Hid _ from g3)
            clear g3
            have x1 := back_index x j g1 bx
            have x2 := back_index y j g2 by'
            go_wp2_with fail
            go_quiet (fail)
            go_wp2
            go_roundw
            case rel => exact ⟨j + 1, _, by go_num, by go_num, by omega, by omega, fun l l1 l2 l3 => by
              by_cases e : l = j
              · subst e; exact H3.out
              · exact HB.out l l1 l2 (by omega), rfl⟩
            case measure => simp [intOf]; omega
          · have HE : Hid (IsEnd x y j) := end_exit j1 j2 HB.out hgo
            have hv := diff_value HX.out HY.out ZX.out ZY.out j1 j2
            have HV := (show Hid _ from hv)
            clear hv
            rcases exits_end hgo j1 j2 with g1 | ⟨g1, g2⟩ | ⟨g1, g2, g3⟩
            · have g1' : decide (((j : Int) + 1) ≤ x.size) = false := by simp; omega
              clear g1
              go_wp2
              exact bodyPost_ret (v := .agg #[.int .i64 k, .int .i64 ((x.size : Int) - j), .string (y.extract 0 (y.size - j))]) (by simp [results, Try.results18, go_sem]) rfl ⟨k, j, by rw [HV.out], ⟨HF.out, by rw [← HX.out, ← HY.out]; exact HE.out⟩, ((below_an.setCell (Nat.le_refl _) _).setCell (Nat.le_refl _) _).setCell (Nat.le_refl _) _⟩
            · have g1' : ((j : Int) + 1) ≤ x.size := by omega
              have g2' : decide (((j : Int) + 1) ≤ y.size) = false := by simp; omega
              clear g1 g2
              go_wp2
              exact bodyPost_ret (v := .agg #[.int .i64 k, .int .i64 ((x.size : Int) - j), .string (y.extract 0 (y.size - j))]) (by simp [results, Try.results18, go_sem]) rfl ⟨k, j, by rw [HV.out], ⟨HF.out, by rw [← HX.out, ← HY.out]; exact HE.out⟩, ((below_an.setCell (Nat.le_refl _) _).setCell (Nat.le_refl _) _).setCell (Nat.le_refl _) _⟩
            · have g1' : ((j : Int) + 1) ≤ x.size := by omega
              have g2' : ((j : Int) + 1) ≤ y.size := by omega
              have g3' := byte_ne' g3
              have x1 := back_index x j g1 bx
              have x2 := back_index y j g2 by'
              clear g3
              go_wp2_with fail
              go_quiet (fail)
              go_wp2
              exact bodyPost_ret (v := .agg #[.int .i64 k, .int .i64 ((x.size : Int) - j), .string (y.extract 0 (y.size - j))]) (by simp [results, Try.results18, go_sem]) rfl ⟨k, j, by rw [HV.out], ⟨HF.out, by rw [← HX.out, ← HY.out]; exact HE.out⟩, ((below_an.setCell (Nat.le_refl _) _).setCell (Nat.le_refl _) _).setCell (Nat.le_refl _) _⟩
      · have h1' : ((k : Int) + 1) ≤ a.size := by omega
        have h2' : decide (((k : Int) + 1) ≤ b.size) = false := by simp; omega
        clear h1 h2
        go_wp2
        go_loopw [9, 10] (fun t i wr => ∃ j q : Nat, t = .int .i64 j ∧ i = .int .i64 ((j : Int) + 1) ∧ j ≤ x.size ∧ j ≤ y.size ∧ (∀ l (h1 : l < x.size) (h2 : l < y.size), l < j → x[x.size - 1 - l] = y[y.size - 1 - l]) ∧ wr = (w.alloc (.cells #[.int .i64 0, .int .i64 0, .string ⟨#[]⟩] 23)).drewN q) (fun t _ _ => x.size - (intOf t).toNat)
        case atStart => exact ⟨0, _, rfl, rfl, Nat.zero_le _, Nat.zero_le _, fun j _ _ h => absurd h (Nat.not_lt_zero _), rfl⟩
        case round =>
          obtain ⟨j, q5, rfl, rfl, j1, j2, hall, rfl⟩ := hrel
          have HB := (show Hid _ from hall)
          clear hall
          by_cases hgo : ∃ (h1 : j < x.size) (h2 : j < y.size), x[x.size - 1 - j] = y[y.size - 1 - j]
          · obtain ⟨g1, g2, g3⟩ := hgo
            have g1' : ((j : Int) + 1) ≤ x.size := by omega
            have g2' : ((j : Int) + 1) ≤ y.size := by omega
            have g3' := byte_eq' g3
            have H3 := (show Hid _ from g3)
            clear g3
            have x1 := back_index x j g1 bx
            have x2 := back_index y j g2 by'
            go_wp2_with fail
            go_quiet (fail)
            go_wp2
            go_roundw
            case rel => exact ⟨j + 1, _, by go_num, by go_num, by omega, by omega, fun l l1 l2 l3 => by
              by_cases e : l = j
              · subst e; exact H3.out
              · exact HB.out l l1 l2 (by omega), rfl⟩
            case measure => simp [intOf]; omega
          · have HE : Hid (IsEnd x y j) := end_exit j1 j2 HB.out hgo
            have hv := diff_value HX.out HY.out ZX.out ZY.out j1 j2
            have HV := (show Hid _ from hv)
            clear hv
            rcases exits_end hgo j1 j2 with g1 | ⟨g1, g2⟩ | ⟨g1, g2, g3⟩
            · have g1' : decide (((j : Int) + 1) ≤ x.size) = false := by simp; omega
              clear g1
              go_wp2
              exact bodyPost_ret (v := .agg #[.int .i64 k, .int .i64 ((x.size : Int) - j), .string (y.extract 0 (y.size - j))]) (by simp [results, Try.results18, go_sem]) rfl ⟨k, j, by rw [HV.out], ⟨HF.out, by rw [← HX.out, ← HY.out]; exact HE.out⟩, ((below_an.setCell (Nat.le_refl _) _).setCell (Nat.le_refl _) _).setCell (Nat.le_refl _) _⟩
            · have g1' : ((j : Int) + 1) ≤ x.size := by omega
              have g2' : decide (((j : Int) + 1) ≤ y.size) = false := by simp; omega
              clear g1 g2
              go_wp2
              exact bodyPost_ret (v := .agg #[.int .i64 k, .int .i64 ((x.size : Int) - j), .string (y.extract 0 (y.size - j))]) (by simp [results, Try.results18, go_sem]) rfl ⟨k, j, by rw [HV.out], ⟨HF.out, by rw [← HX.out, ← HY.out]; exact HE.out⟩, ((below_an.setCell (Nat.le_refl _) _).setCell (Nat.le_refl _) _).setCell (Nat.le_refl _) _⟩
            · have g1' : ((j : Int) + 1) ≤ x.size := by omega
              have g2' : ((j : Int) + 1) ≤ y.size := by omega
              have g3' := byte_ne' g3
              have x1 := back_index x j g1 bx
              have x2 := back_index y j g2 by'
              clear g3
              go_wp2_with fail
              go_quiet (fail)
              go_wp2
              exact bodyPost_ret (v := .agg #[.int .i64 k, .int .i64 ((x.size : Int) - j), .string (y.extract 0 (y.size - j))]) (by simp [results, Try.results18, go_sem]) rfl ⟨k, j, by rw [HV.out], ⟨HF.out, by rw [← HX.out, ← HY.out]; exact HE.out⟩, ((below_an.setCell (Nat.le_refl _) _).setCell (Nat.le_refl _) _).setCell (Nat.le_refl _) _⟩
      · have h1' : ((k : Int) + 1) ≤ a.size := by omega
        have h2' : ((k : Int) + 1) ≤ b.size := by omega
        have h3' := byte_ne' h3
        have x1 := front_index a k h1 ha
        have x2 := front_index b k h2 hb
        clear h3
        go_wp2_with fail
        go_quiet (fail)
        go_wp2
        go_loopw [9, 10] (fun t i wr => ∃ j q : Nat, t = .int .i64 j ∧ i = .int .i64 ((j : Int) + 1) ∧ j ≤ x.size ∧ j ≤ y.size ∧ (∀ l (h1 : l < x.size) (h2 : l < y.size), l < j → x[x.size - 1 - l] = y[y.size - 1 - l]) ∧ wr = (w.alloc (.cells #[.int .i64 0, .int .i64 0, .string ⟨#[]⟩] 23)).drewN q) (fun t _ _ => x.size - (intOf t).toNat)
        case atStart => exact ⟨0, _, rfl, rfl, Nat.zero_le _, Nat.zero_le _, fun j _ _ h => absurd h (Nat.not_lt_zero _), rfl⟩
        case round =>
          obtain ⟨j, q5, rfl, rfl, j1, j2, hall, rfl⟩ := hrel
          have HB := (show Hid _ from hall)
          clear hall
          by_cases hgo : ∃ (h1 : j < x.size) (h2 : j < y.size), x[x.size - 1 - j] = y[y.size - 1 - j]
          · obtain ⟨g1, g2, g3⟩ := hgo
            have g1' : ((j : Int) + 1) ≤ x.size := by omega
            have g2' : ((j : Int) + 1) ≤ y.size := by omega
            have g3' := byte_eq' g3
            have H3 := (show Hid _ from g3)
            clear g3
            have x1 := back_index x j g1 bx
            have x2 := back_index y j g2 by'
            go_wp2_with fail
            go_quiet (fail)
            go_wp2
            go_roundw
            case rel => exact ⟨j + 1, _, by go_num, by go_num, by omega, by omega, fun l l1 l2 l3 => by
              by_cases e : l = j
              · subst e; exact H3.out
              · exact HB.out l l1 l2 (by omega), rfl⟩
            case measure => simp [intOf]; omega
          · have HE : Hid (IsEnd x y j) := end_exit j1 j2 HB.out hgo
            have hv := diff_value HX.out HY.out ZX.out ZY.out j1 j2
            have HV := (show Hid _ from hv)
            clear hv
            rcases exits_end hgo j1 j2 with g1 | ⟨g1, g2⟩ | ⟨g1, g2, g3⟩
            · have g1' : decide (((j : Int) + 1) ≤ x.size) = false := by simp; omega
              clear g1
              go_wp2
              exact bodyPost_ret (v := .agg #[.int .i64 k, .int .i64 ((x.size : Int) - j), .string (y.extract 0 (y.size - j))]) (by simp [results, Try.results18, go_sem]) rfl ⟨k, j, by rw [HV.out], ⟨HF.out, by rw [← HX.out, ← HY.out]; exact HE.out⟩, ((below_an.setCell (Nat.le_refl _) _).setCell (Nat.le_refl _) _).setCell (Nat.le_refl _) _⟩
            · have g1' : ((j : Int) + 1) ≤ x.size := by omega
              have g2' : decide (((j : Int) + 1) ≤ y.size) = false := by simp; omega
              clear g1 g2
              go_wp2
              exact bodyPost_ret (v := .agg #[.int .i64 k, .int .i64 ((x.size : Int) - j), .string (y.extract 0 (y.size - j))]) (by simp [results, Try.results18, go_sem]) rfl ⟨k, j, by rw [HV.out], ⟨HF.out, by rw [← HX.out, ← HY.out]; exact HE.out⟩, ((below_an.setCell (Nat.le_refl _) _).setCell (Nat.le_refl _) _).setCell (Nat.le_refl _) _⟩
            · have g1' : ((j : Int) + 1) ≤ x.size := by omega
              have g2' : ((j : Int) + 1) ≤ y.size := by omega
              have g3' := byte_ne' g3
              have x1 := back_index x j g1 bx
              have x2 := back_index y j g2 by'
              clear g3
              go_wp2_with fail
              go_quiet (fail)
              go_wp2
              exact bodyPost_ret (v := .agg #[.int .i64 k, .int .i64 ((x.size : Int) - j), .string (y.extract 0 (y.size - j))]) (by simp [results, Try.results18, go_sem]) rfl ⟨k, j, by rw [HV.out], ⟨HF.out, by rw [← HX.out, ← HY.out]; exact HE.out⟩, ((below_an.setCell (Nat.le_refl _) _).setCell (Nat.le_refl _) _).setCell (Nat.le_refl _) _⟩

end Go.Proofs.Ytfgjlgcoablnoaa
