/- For every two texts a and b, topiarylaw01.EditDiffs(a, b) returns true and leaves its arguments as they were; no condition. -/
import Derived.Test.YtfgjlgcoablnoaaLong
import Derived.Test.YtfgjlgcoablnoaaClose
import Derived.Test.YtfgjlgcoablnoaaCells
import Derived.Test.YtfgjlgcoablnoaaBoth
namespace Go.Proofs.Ytfgjlgcoablnoaa
open Go.RowKit
open Go.ChangeShapes Go.WideShapes Go.ChangeAt
open Go.ChangeMaps (open_string shut_string)

set_option maxHeartbeats 400000 in
theorem editDiffs6_long (a b : ByteArray) (w : World) (h : (4000 : Int) < a.size ∨ (4000 : Int) < b.size) :
    Calls Try.prog 6 #[.string a, .string b] w fun e w' => e = .returned (.bool true) ∧ Below w.heap.size w w' := by
  by_cases h1 : (4000 : Int) < a.size
  · clear h
    go_enter Try.func6, Try.ntmps6
    go_wp2_with (first
      | (go_at_call 9; refine (wakes9 _).mono ?_; rintro e w1 ⟨rfl, hb⟩))
    go_ret
    exact ⟨rfl, hb⟩
  · have h2 : (4000 : Int) < b.size := by omega
    clear h
    go_enter Try.func6, Try.ntmps6
    go_wp2_with (first
      | (go_at_call 9; refine (wakes9 _).mono ?_; rintro e w1 ⟨rfl, hb⟩))
    go_ret
    exact ⟨rfl, hb⟩

set_option maxHeartbeats 4000000 in
theorem editDiffs6_ok (a b t : ByteArray) (f n : Int) (w : World) (h1 : ¬ (4000 : Int) < a.size) (h2 : ¬ (4000 : Int) < b.size)
    (G17 : Hid (∀ w, Calls Try.prog 17 #[.string a, .string b] w fun e w' => e = .returned (.agg #[.int .i64 f, .int .i64 n, .string t]) ∧ Below w.heap.size w w'))
    (G18 : Hid (∀ w, Calls Try.prog 18 #[.string a, .string b] w fun e w' => e = .returned (.agg #[.int .i64 f, .int .i64 n, .string t]) ∧ Below w.heap.size w w'))
    (G11 : Hid (∀ w, Calls Try.prog 11 #[.string a, .agg #[.int .i64 f, .int .i64 n, .string t]] w fun e w' => e = .returned (.tuple #[.string b, .int .i64 0]) ∧ Below w.heap.size w w'))
    (G19 : Hid (∀ w, Calls Try.prog 19 #[.string a, .agg #[.int .i64 f, .int .i64 n, .string t]] w fun e w' => e = .returned (.bool (a.toList == b.toList)) ∧ Below w.heap.size w w')) :
    Calls Try.prog 6 #[.string a, .string b] w fun e w' => e = .returned (.bool true) ∧ Below w.heap.size w w' := by
  go_enter Try.func6, Try.ntmps6
  go_wp2_with (first
    | (go_at_call 9; refine (wakes9 _).mono ?_; rintro e w1 ⟨rfl, hb⟩)
    | (go_at_call 17; refine (G17.out _).mono ?_; rintro e w2 ⟨rfl, hb2⟩)
    | (go_at_call 11; refine (G11.out _).mono ?_; rintro e w3 ⟨rfl, hb3⟩; have E3 := keep_blk hb3 (heap_alloc_new w2 _); have C3 := cells3 E3))
  go_region_held3 (fun w' => w'.cell? ⟨w2.heap.size, 0, none⟩ = some (.int .i64 f) ∧ w'.cell? ⟨w2.heap.size, 1, none⟩ = some (.int .i64 n) ∧ w'.cell? ⟨w2.heap.size, 2, none⟩ = some (.string t)) (go_keep) ((first
    | (go_at_call 18; refine (G18.out _).mono ?_; rintro e w4 ⟨rfl, hb4⟩; have E4 := keep_blk hb4 (by exact E3); have C4 := cells3 E4)
    | (go_at_call 19; refine (G19.out _).mono ?_; rintro e w5 ⟨rfl, hb5⟩; have E5 := keep_blk hb5 (by exact E4); have C5 := cells3 E5)))
  go_wp2
  go_ret
  exact ⟨rfl, bl_step (bl_step (bl_step (bl_alloc (bl_step hb hb2)) hb3).drew hb4) hb5⟩

theorem editDiffs6 (a b : ByteArray) (w : World) : Calls Try.prog 6 #[.string a, .string b] w fun e w' => e = .returned (.bool true) ∧ Below w.heap.size w w' := by
  by_cases h : (4000 : Int) < a.size ∨ (4000 : Int) < b.size
  · exact editDiffs6_long a b w h
  · have h1 : ¬ (4000 : Int) < a.size := fun e => h (Or.inl e)
    have h2 : ¬ (4000 : Int) < b.size := fun e => h (Or.inr e)
    obtain ⟨f, g, hd⟩ := diff_ex a b
    obtain ⟨z1, z2⟩ := diff_sizes hd
    have z3 := diff_size z2
    refine editDiffs6_ok a b (b.extract f (b.size - g)) f (a.size - f - g : Nat) w h1 h2 (fun w => diff17_at hd w (by omega) (by omega)) (fun w => refDiff18_at hd w (by omega) (by omega)) (fun w => ?_) (fun w => ?_)
    · have k := apply11 a (b.extract f (b.size - g)) f (a.size - f - g : Nat) w (by omega) (by omega) (by omega)
      rw [show appV a (b.extract f (b.size - g)) f (a.size - f - g : Nat) = .tuple #[.string b, .int .i64 0] by
        unfold appV; rw [diff_app hd (by omega), diff_err hd (by omega)]] at k
      exact k
    · have k := idle19 a (b.extract f (b.size - g)) f (a.size - f - g : Nat) w (by omega) (by omega)
      rw [diff_idle hd (by omega) (by omega)] at k
      exact k

theorem open_ss {H : Type} {enc : TypeId × Value → H} {W : World} {base : Nat} {args : Array Value} {ds : List (DataW H)} {p : List MemPlace}
    (hval : ∀ (j : Nat) t v, #[9, 9][j]? = some t → args[j]? = some v → Value.okWide Try.prog W .any base t v)
    (hA : DataW.TrodAll enc Try.prog W 0 (fun _ => true) true [9, 9] args.toList ds p) :
    ∃ (a b : ByteArray) (d0 d1 : DataW H), args = #[.string a, .string b] ∧ ds = [d0, d1] := by
  obtain ⟨v0, v1, d0, d1, p0, p1, rfl, rfl, rfl, h0, h1⟩ := trodAll_two hA
  obtain ⟨a, rfl, rfl, rfl, ha⟩ := open_string Try.underlying9 (hval 0 9 v0 rfl rfl) h0
  obtain ⟨b, rfl, rfl, rfl, hb⟩ := open_string Try.underlying9 (hval 1 9 v1 rfl rfl) h1
  exact ⟨a, b, _, _, rfl, rfl⟩

set_option maxRecDepth 100000 in
theorem editDiffs_lifted (os : Os) (started : os.Started) (H : Type) (enc : TypeId × Value → H) :
    ReturnsInHanded {} Try.checked os 6 .any (Rows.editDiffsSpec.pre6 enc Try.prog Try.f6 Rows.editDiffsRow.domain false) (Rows.editDiffsSpec.post enc Try.prog Try.f6 false true false false) := by
  refine returnsInHanded_of_change (C := Try.checked) Try.own started (by kernel_rfl) Try.func6
    (ChangeSpec.witness6 (enc := enc) (C := Try.checked) false ⟨#[], #[.string .empty, .string .empty], []⟩ 8 (by kernel_rfl) (by kernel_rfl) (by kernel_rfl) (by kernel_rfl)) ?_
  intro W base args ds gs before hval0 hW hcnd _
  have hval : ∀ (j : Nat) t v, Try.f6.params[j]? = some t → args[j]? = some v → Value.okWide Try.prog W .any base t v := hval0
  have hW' := hW
  obtain ⟨p, q, hA0, hV, rfl, hfz, hnd⟩ := hW
  have hA : DataW.TrodAll enc Try.prog W 0 (fun _ => true) true Try.f6.params.toList args.toList ds p := hA0
  rw [Try.params6] at hA hval
  obtain ⟨a, b, d0, d1, rfl, rfl⟩ := open_ss hval hA
  obtain ⟨rfl, rfl⟩ := trodVars_none hV
  clear hA0 hval0
  refine (editDiffs6 a b W).mono fun e W' ⟨he, hb⟩ => ?_
  subst he
  exact ⟨_, rfl, law_post (by kernel_rfl) rfl (by kernel_rfl) rfl hW' hb⟩

theorem editDiffs_holds : Rows.EditDiffsSaid :=
  OpenClaim.holds_of_wide 6 Try.f6 rfl rfl rfl rfl rfl rfl rfl ⟨rfl, rfl, rfl, rfl, rfl⟩ rfl rfl rfl rfl rfl (by kernel_rfl) Try.func6 (by kernel_rfl)
    (of_decide_eq_true (by kernel_rfl)) (by unfold Func.isWrapper; first | (rw [if_pos (by decide +kernel)]; kernel_rfl) | (rw [if_neg (by decide +kernel)]; exact ⟨rfl, rfl⟩))
    (fun os started H enc _ => editDiffs_lifted os started H enc)

end Go.Proofs.Ytfgjlgcoablnoaa
