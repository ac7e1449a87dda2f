/- For every text s and every list l of edits, topiarylaw01.EditAll(s, l) returns true and leaves its arguments as they were; no condition. -/
import Derived.Test.YtfgjlgcoablnoaaEdCells
import Derived.Test.YtfgjlgcoablnoaaClose
import Derived.Deep.Slices
namespace Go.Proofs.Ytfgjlgcoablnoaa
open Go.RowKit
open Go.ChangeShapes Go.WideShapes Go.ChangeAt
open Go.ChangeMaps (open_string shut_string)

theorem Try.info23 : (Try.prog.info? 23).map (fun i => (i.zero, i.size, i.bytes)) = some (some (.agg #[.int .i64 0, .int .i64 0, .string ⟨#[]⟩]), 3, 32) := by kernel_rfl
theorem below_own {B : Nat} {w0 wr w2 : World} {v : Value} {n : Nat} {xs : List Value} (hown : wr.ownsRow B 23 3 v n xs) (hbl : Below B w0 wr) (hB : B ≤ w0.heap.size) (hg : wr.grownBy w2 v.ownBlock) : Below B w0 w2 :=
  hbl.grown hg (Nat.le_trans hB hbl.size) (fun k hk => (hown.lt k hk).1)

set_option maxHeartbeats 400000 in
theorem editAll5_long (s : ByteArray) (len cap : Nat) (ao : Option Addr) (w : World)
    (HL : Hid (∀ w', Below w.heap.size w w' → Calls Try.prog 10 #[.string s, .slice ao len cap] w' fun e w'' => e = .returned (.bool true) ∧ w'' = w')) :
    Calls Try.prog 5 #[.string s, .slice ao len cap] w fun e w' => e = .returned (.bool true) ∧ Below w.heap.size w w' := by
  go_enter Try.func5, Try.ntmps5
  go_wp2_with (first
    | (go_at_call 9; refine (wakes9 _).mono ?_; rintro e w1 ⟨rfl, hb⟩)
    | (go_at_call 10; refine (HL.out _ hb).mono ?_; rintro e w2 ⟨rfl, rfl⟩))
  go_ret
  exact ⟨rfl, hb⟩

set_option maxHeartbeats 1000000 in
theorem editAll5_some (s : ByteArray) (es : List Ed) (ad : Addr) (cap : Nat) (x : ByteArray) (k : Nat) (er : Int) (w : World) (hlen : es.length ≤ 100)
    (hE : Hid (EdsAt w (some ad) es))
    (HL : Hid (∀ w', Below w.heap.size w w' → Calls Try.prog 10 #[.string s, .slice (some ad) es.length cap] w' fun e w'' => e = .returned (.bool false) ∧ w'' = w'))
    (H15 : Hid (∀ ao cap w, EdsAt w ao es → Calls Try.prog 15 #[.string s, .slice ao es.length cap] w fun e w' => e = .returned (.tuple #[.string x, .int .i64 k, .int .i64 er]) ∧ Below w.heap.size w w'))
    (H16 : Hid (∀ ao cap w, EdsAt w ao es → Calls Try.prog 16 #[.string s, .slice ao es.length cap] w fun e w' => e = .returned (.agg #[.string x, .int .i64 k, .int .i64 er]) ∧ Below w.heap.size w w')) :
    Calls Try.prog 5 #[.string s, .slice (some ad) es.length cap] w fun e w' => e = .returned (.bool true) ∧ Below w.heap.size w w' := by
  obtain ⟨i0, hi, hz0, hz1, hz2⟩ := info_parts Try.info23
  go_enter Try.func5, Try.ntmps5
  go_wp2_with (first
    | (go_at_call 9; refine (wakes9 _).mono ?_; rintro e w1 ⟨rfl, hb⟩)
    | (go_at_call 10; refine (HL.out _ hb).mono ?_; rintro e w2 ⟨rfl, rfl⟩)
    | (at_builtin; refine wpList_append_own _ rfl _ _ 26 rfl w.heap.size 23 i0 (.agg #[.int .i64 0, .int .i64 0, .string ⟨#[]⟩]) 3 32 Try.underlying26 hi hz0 hz1 hz2 rfl (by decide) _ _ _ rfl (World.ownsRow_lit _ #[] 0 hb.size (Nat.zero_le _) rfl) ad es.length cap (edCells es) rfl (edCells_length es) ?c1 (edCells_one es) ?c3 ?c4 ?c5 ?_))
  case c1 => exact news_of (hE.out.keep (bl_alloc hb))
  case c3 => unfold maxLen; omega
  case c4 => omega
  case c5 => have := hb.size; simp; omega
  intro v' w3 hown' hgrow _
  have hb3 : Below w.heap.size w w3 := below_own (World.ownsRow_lit _ #[] 0 hb.size (Nat.zero_le _) rfl) (bl_alloc hb) (Nat.le_refl _) hgrow
  obtain ⟨ao', cap', rfl, hA3⟩ := eds_of_own rfl hown'
  have HA3 := (show Hid _ from hA3)
  clear hown' hgrow hA3
  go_wp2_with (first
    | (go_at_call 15; refine (H15.out _ _ _ (by exact HA3.out)).mono ?_; rintro e w4 ⟨rfl, hb4⟩)
    | (go_at_call 16; refine (H16.out _ _ _ (by exact hE.out.keep (bl_step hb3 hb4))).mono ?_; rintro e w5 ⟨rfl, hb5⟩))
  go_ret
  exact ⟨rfl, bl_alloc (bl_step (bl_step hb3 hb4) hb5)⟩

set_option maxHeartbeats 1000000 in
theorem editAll5_none (s x : ByteArray) (k : Nat) (er : Int) (w : World)
    (HL : Hid (∀ w', Below w.heap.size w w' → Calls Try.prog 10 #[.string s, .slice none 0 0] w' fun e w'' => e = .returned (.bool false) ∧ w'' = w'))
    (H15 : Hid (∀ ao cap w, Calls Try.prog 15 #[.string s, .slice ao 0 cap] w fun e w' => e = .returned (.tuple #[.string x, .int .i64 k, .int .i64 er]) ∧ Below w.heap.size w w'))
    (H16 : Hid (∀ ao cap w, Calls Try.prog 16 #[.string s, .slice ao 0 cap] w fun e w' => e = .returned (.agg #[.string x, .int .i64 k, .int .i64 er]) ∧ Below w.heap.size w w')) :
    Calls Try.prog 5 #[.string s, .slice none 0 0] w fun e w' => e = .returned (.bool true) ∧ Below w.heap.size w w' := by
  go_enter Try.func5, Try.ntmps5
  go_wp2_with (first
    | (go_at_call 9; refine (wakes9 _).mono ?_; rintro e w1 ⟨rfl, hb⟩)
    | (go_at_call 10; refine (HL.out _ hb).mono ?_; rintro e w2 ⟨rfl, rfl⟩)
    | (go_at_call 15; refine (H15.out _ _ _).mono ?_; rintro e w4 ⟨rfl, hb4⟩)
    | (go_at_call 16; refine (H16.out _ _ _).mono ?_; rintro e w5 ⟨rfl, hb5⟩))
  go_ret
  exact ⟨rfl, bl_alloc (bl_step (bl_step (bl_alloc hb) hb4) hb5)⟩

theorem editAll5 (s : ByteArray) (es : List Ed) (ao : Option Addr) (cap : Nat) (w : World) (hs : s.size ≤ 9223372036854775807) (hl : es.length ≤ 9223372036854775807) (hA : EdsAt w ao es)
    (h0 : ao = none → es = [] ∧ cap = 0) (hS : ∀ e ∈ es, e.a ≤ 9223372036854775807) :
    Calls Try.prog 5 #[.string s, .slice ao es.length cap] w fun e w' => e = .returned (.bool true) ∧ Below w.heap.size w w' := by
  have L := fun w' (hb : Below w.heap.size w w') => long10_eds s es ao cap w' hs hl (hA.keep hb)
  cases hlg : longB s.size (es.map Ed.t) with
  | true =>
    rw [hlg] at L
    exact editAll5_long s es.length cap ao w L
  | false =>
    obtain ⟨l1, l2, l3⟩ := longB_eds hlg
    rw [hlg] at L
    have sane : Sane es := fun e he => ⟨hS e he, l3 e he⟩
    cases ao with
    | some ad => exact editAll5_some s es ad cap _ _ _ w l2 hA L (fun ao cap w h => all15 s es ao cap w l1 l2 h sane) (fun ao cap w h => play16 s es ao cap w l1 l2 h sane)
    | none =>
      obtain ⟨rfl, rfl⟩ := h0 rfl
      exact editAll5_none s _ _ _ w L (fun ao cap w => all15 s [] ao cap w l1 l2 (fun h => absurd rfl h) sane) (fun ao cap w => play16 s [] ao cap w l1 l2 (fun h => absurd rfl h) sane)

theorem ed_cells {w : World} {a : Addr} {cs : List Value} (h : w.cells? 0 a 3 = some cs) : (∃ c0 c1 c2, cs = [c0, c1, c2]) ∧ ∀ i, i < 3 → w.cell? (a.add i) = cs[i]? := by
  obtain ⟨_, hl, hc⟩ := World.cells?_some h
  refine ⟨?_, hc⟩
  match cs, hl with
  | [c0, c1, c2], _ => exact ⟨c0, c1, c2, rfl⟩
theorem Try.cells3 : Try.prog.cellsOf 3 = 1 := by kernel_rfl
theorem Try.cells9 : Try.prog.cellsOf 9 = 1 := by kernel_rfl
theorem wide_lt {n : Nat} (h : n ≤ maxLen) : n ≤ 9223372036854775807 := by unfold maxLen at h; omega
theorem bound_hi {n : Int} (h : (Lit.int .i64 n).wf = true) : n ≤ 9223372036854775807 := (bounds_i64 h).2

/-- a slice of edits, opened -/
theorem open_eds {H : Type} {enc : TypeId × Value → H} {W : World} {v : Value} {d : DataW H} {p : List MemPlace} {base : Nat} (hv : Value.okWide Try.prog W .any base 26 v)
    (h : DataW.Trod enc Try.prog W 0 (fun _ => true) true 26 v d p) :
    ∃ (es : List Ed) (ao : Option Addr) (cap : Nat), v = .slice ao es.length cap ∧ EdsAt W ao es ∧ (ao = none → es = [] ∧ cap = 0) ∧ (∀ e ∈ es, e.a ≤ 9223372036854775807) ∧ es.length ≤ 9223372036854775807 := by
  obtain ⟨ao, len, cap, rfl⟩ := okWide_slice Try.underlying26 hv
  obtain ⟨fuel, hf⟩ := h
  rcases Deep.open_slice Try.underlying26 hf with ⟨hcs, _⟩ | ⟨a, len', cap', m, n, D, Pl, hcs, _, hl, hm, hmm, _, hx⟩
  · simp [Value.cells] at hcs
    obtain ⟨rfl, rfl, rfl⟩ := hcs
    exact ⟨[], none, 0, rfl, fun h => absurd rfl h, fun _ => ⟨rfl, rfl⟩, fun e he => absurd he (by simp), by simp⟩
  · simp [Value.cells] at hcs
    obtain ⟨rfl, rfl, rfl⟩ := hcs
    have hm' : m = cap := by simpa using hmm
    have hone : ∀ i, i < len → ∃ e : Int × Int × ByteArray, W.cell? (a.add (i * 3)) = some (.int .i64 e.1) ∧ W.cell? (a.add (i * 3 + 1)) = some (.int .i64 e.2.1) ∧ W.cell? (a.add (i * 3 + 2)) = some (.string e.2.2) ∧ e.1 ≤ 9223372036854775807 := by
      intro i hi
      obtain ⟨cs', hc, ht⟩ := hx i (by omega)
      rw [Try.cells23] at hc
      obtain ⟨hcl, hce⟩ := ed_cells hc
      obtain ⟨y0, y1, y2, q, _, _, t0, t1, t2⟩ := Deep.trod_struct3 Try.underlying23 ht
      obtain ⟨c0, c1, c2, rfl⟩ := hcl
      obtain ⟨ea, e0, _, wa⟩ := DataW.trod_int Try.underlying3 t0
      obtain ⟨en, e1, _, wn⟩ := DataW.trod_int Try.underlying3 t1
      obtain ⟨et, e2, _, wt⟩ := DataW.trod_string Try.underlying9 t2
      simp [Try.cells3] at e0 e1
      simp [Try.cells9] at e2
      subst e0 e1 e2
      have h0 := hce 0 (by omega)
      have h1 := hce 1 (by omega)
      have h2 := hce 2 (by omega)
      rw [Deep.add_add] at h0 h1 h2
      exact ⟨(ea, en, et), h0, h1, h2, bound_hi wa⟩
    obtain ⟨E, hE⟩ := Deep.choose_lt hone
    refine ⟨(List.range len).map (fun i => ⟨(E i).1, (E i).2.1, (E i).2.2⟩), some a, cap, by simp, ?_, fun h => (by cases h), ?_, ?_⟩
    · intro hne
      have hp : 0 < len := by
        rcases Nat.eq_zero_or_pos len with h | h
        · subst h; exact absurd rfl hne
        · exact h
      obtain ⟨b, off, spot⟩ := a
      have hspot : spot = none := by simpa [Addr.add] using World.cell?_spot (hE 0 hp).1
      subst hspot
      refine ⟨b, off, rfl, fun j hj => ?_⟩
      have hj' : j < len := by simpa using hj
      obtain ⟨k0, k1, k2, _⟩ := hE j hj'
      rw [Go.WideShapes.add_plain] at k0 k1 k2
      simp only [List.getElem_map, List.getElem_range]
      exact ⟨k0, k1, k2⟩
    · intro e he
      obtain ⟨i, hi, rfl⟩ := List.mem_map.1 he
      exact (hE i (List.mem_range.1 hi)).2.2.2
    · rw [List.length_map, List.length_range]
      exact Nat.le_trans hl (wide_lt hm)

set_option maxRecDepth 100000 in
theorem editAll_lifted (os : Os) (started : os.Started) (H : Type) (enc : TypeId × Value → H) :
    ReturnsInHanded {} Try.checked os 5 .any (Rows.editAllSpec.pre6 enc Try.prog Try.f5 Rows.editAllRow.domain false) (Rows.editAllSpec.post enc Try.prog Try.f5 false true false false) := by
  refine returnsInHanded_of_change (C := Try.checked) Try.own started (by kernel_rfl) Try.func5
    (ChangeSpec.witness6 (enc := enc) (C := Try.checked) false ⟨#[], #[.string .empty, .slice none 0 0], []⟩ 8 (by kernel_rfl) (by kernel_rfl) (by kernel_rfl) (by kernel_rfl)) ?_
  intro W base args ds gs before hval0 hW hcnd _
  have hval : ∀ (j : Nat) t v, Try.f5.params[j]? = some t → args[j]? = some v → Value.okWide Try.prog W .any base t v := hval0
  have hW' := hW
  obtain ⟨p, q, hA0, hV, rfl, hfz, hnd⟩ := hW
  have hA : DataW.TrodAll enc Try.prog W 0 (fun _ => true) true Try.f5.params.toList args.toList ds p := hA0
  rw [Try.params5] at hA hval
  obtain ⟨v0, v1, d0, d1, p0, p1, rfl, rfl, rfl, h0, h1⟩ := trodAll_two hA
  obtain ⟨s, rfl, rfl, rfl, hs⟩ := open_string Try.underlying9 (hval 0 9 v0 rfl rfl) h0
  obtain ⟨es, ao, cap, rfl, hA0', h0', hS', hl⟩ := open_eds (hval 1 26 v1 rfl rfl) h1
  obtain ⟨rfl, rfl⟩ := trodVars_none hV
  clear hA0 hval0
  refine (editAll5 s es ao cap W (wide_lt hs) hl hA0' h0' hS').mono fun e W' ⟨he, hb⟩ => ?_
  subst he
  exact ⟨_, rfl, law_post (by kernel_rfl) rfl (by kernel_rfl) rfl hW' hb⟩

theorem editAll_holds : Rows.EditAllSaid :=
  OpenClaim.holds_of_wide 5 Try.f5 rfl rfl rfl rfl rfl rfl rfl ⟨rfl, rfl, rfl, rfl, rfl⟩ rfl rfl rfl rfl rfl (by kernel_rfl) Try.func5 (by kernel_rfl)
    (of_decide_eq_true (by kernel_rfl)) (by unfold Func.isWrapper; first | (rw [if_pos (by decide +kernel)]; kernel_rfl) | (rw [if_neg (by decide +kernel)]; exact ⟨rfl, rfl⟩))
    (fun os started H enc _ => editAll_lifted os started H enc)

end Go.Proofs.Ytfgjlgcoablnoaa
