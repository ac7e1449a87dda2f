/- The contracts of whole, Len, String. -/
import Derived.Test.YtnhabinnmkjnbaaObj
namespace Go.Proofs.Ytnhabinnmkjnbaa
open Go.RowKit

theorem TextAt.keep {F : Nat → Prop} {w w' : World} {tb pb : Nat} {ps : List ByteArray} {uv rv : Value} {us rs : List Ed} (h : TextAt w tb pb ps uv rv us rs) (hk : Kept F w w') (ht : ¬ F tb) (hp : ¬ F pb)
    (hu : ∀ k, uv.ownBlock = some k → ¬ F k) (hr : ∀ k, rv.ownBlock = some k → ¬ F k) : TextAt w' tb pb ps uv rv us rs :=
  ⟨hk.blk h.head ht, hk.blk h.row hp, own_keep h.undo fun k e => hk.block k (own_lt h.undo e).1 (hu k e), own_keep h.redo fun k e => hk.block k (own_lt h.redo e).1 (hr k e), h.apart, h.small, h.few⟩
theorem TextAt.low {w w' : World} {tb pb : Nat} {ps : List ByteArray} {uv rv : Value} {us rs : List Ed} (h : TextAt w tb pb ps uv rv us rs) (hb : Below w.heap.size w w') : TextAt w' tb pb ps uv rv us rs :=
  h.keep (F := noBlk) (Kept.of_below hb) id id (fun _ _ => id) (fun _ _ => id)
theorem TextAt.drew {w : World} {tb pb : Nat} {ps : List ByteArray} {uv rv : Value} {us rs : List Ed} (h : TextAt w tb pb ps uv rv us rs) : TextAt w.drew tb pb ps uv rv us rs := ⟨h.head, h.row, h.undo, h.redo, h.apart, h.small, h.few⟩
theorem TextAt.undoNe {w : World} {tb pb : Nat} {ps : List ByteArray} {uv rv : Value} {us rs : List Ed} (h : TextAt w tb pb ps uv rv us rs) (k : Nat) (e : uv.ownBlock = some k) : k ≠ tb ∧ k ≠ pb := by
  obtain ⟨_, cs, h2⟩ := own_lt h.undo e
  constructor
  · rintro rfl; rw [h.head] at h2; cases h2
  · rintro rfl; rw [h.row] at h2; cases h2
theorem TextAt.redoNe {w : World} {tb pb : Nat} {ps : List ByteArray} {uv rv : Value} {us rs : List Ed} (h : TextAt w tb pb ps uv rv us rs) (k : Nat) (e : rv.ownBlock = some k) : k ≠ tb ∧ k ≠ pb := by
  obtain ⟨_, cs, h2⟩ := own_lt h.redo e
  constructor
  · rintro rfl; rw [h.head] at h2; cases h2
  · rintro rfl; rw [h.row] at h2; cases h2
theorem TextAt.rowNe {w : World} {tb pb : Nat} {ps : List ByteArray} {uv rv : Value} {us rs : List Ed} (h : TextAt w tb pb ps uv rv us rs) : pb ≠ tb := by
  rintro rfl
  have := h.head
  rw [h.row] at this
  simp at this
/-- the text stands in new pieces -/
theorem TextAt.stood {w w' : World} {tb pb pb' : Nat} {ps ps' : List ByteArray} {uv rv : Value} {us rs : List Ed} (h : TextAt w tb pb ps uv rv us rs) (hk : Kept (oneBlk tb) w w')
    (hh : w'.heap[tb]? = some (.cells #[.slice (some ⟨pb', 0, none⟩) ps'.length ps'.length, .int .i64 ((total ps' : Nat) : Int), .int .u32 (bit (decide (ps'.length = 1))), uv, rv] 61 (0, 0)))
    (hr : w'.heap[pb']? = some (.cells (ps'.map Value.string).toArray 9 (0, 0))) (hs : total ps' ≤ 4000) (hf : 0 < ps'.length ∧ ps'.length ≤ 3) : TextAt w' tb pb' ps' uv rv us rs :=
  ⟨hh, hr, own_keep h.undo fun k e => hk.block k (own_lt h.undo e).1 (h.undoNe k e).1, own_keep h.redo fun k e => hk.block k (own_lt h.redo e).1 (h.redoNe k e).1, h.apart, hs, hf⟩

theorem join_nil : ∀ ls : List (List UInt8), (List.intersperse [] ls).flatten = ls.flatten
  | [] => rfl
  | [x] => by simp
  | x :: y :: r => by
    have := join_nil (y :: r)
    simp only [List.intersperse_cons_cons, List.flatten_cons, List.nil_append] at this ⊢
    rw [this]
theorem join_joinB (ps : List ByteArray) : (⟨(Lib.join (ps.map (·.data.toList)) (⟨#[]⟩ : ByteArray).data.toList).toArray⟩ : ByteArray) = joinB ps := by
  unfold joinB
  rw [show (⟨#[]⟩ : ByteArray).data.toList = [] from rfl, Lib.join, List.intercalate, join_nil, List.flatMap_def]

theorem stand1 (tb pb : Nat) (p : ByteArray) (x y z uv rv : Value) (w : World) (hh : w.heap[tb]? = some (.cells #[x, y, z, uv, rv] 61 (0, 0)))
    (hr : w.heap[pb]? = some (.cells #[.string p] 9 (0, 0))) (hs : p.size ≤ 1000000) :
    Calls Try.prog 21 #[.pointer (some ⟨tb, 0, none⟩), .slice (some ⟨pb, 0, none⟩) 1 1] w fun e w' => e = .returned (.tuple #[]) ∧
      (w'.heap[tb]? = some (.cells #[.slice (some ⟨pb, 0, none⟩) 1 1, .int .i64 (p.size : Int), .int .u32 1, uv, rv] 61 (0, 0)) ∧ Kept (oneBlk tb) w w') := by
  have h := standIs tb pb [p] x y z uv rv w hh hr (by simpa [total] using hs) (by simp)
  simpa [total, bit] using h
theorem stand3 (tb pb : Nat) (p q r : ByteArray) (x y z uv rv : Value) (w : World) (hh : w.heap[tb]? = some (.cells #[x, y, z, uv, rv] 61 (0, 0)))
    (hr : w.heap[pb]? = some (.cells #[.string p, .string q, .string r] 9 (0, 0))) (hs : total [p, q, r] ≤ 1000000) :
    Calls Try.prog 21 #[.pointer (some ⟨tb, 0, none⟩), .slice (some ⟨pb, 0, none⟩) 3 3] w fun e w' => e = .returned (.tuple #[]) ∧
      (w'.heap[tb]? = some (.cells #[.slice (some ⟨pb, 0, none⟩) 3 3, .int .i64 ((total [p, q, r] : Nat) : Int), .int .u32 (bit (decide ([p, q, r].length = 1))), uv, rv] 61 (0, 0)) ∧ Kept (oneBlk tb) w w') :=
  standIs tb pb [p, q, r] x y z uv rv w hh hr hs (by simp)

set_option maxHeartbeats 1000000 in
theorem wholeIs {tb pb : Nat} {ps : List ByteArray} {uv rv : Value} {us rs : List Ed} {w : World} (h : TextAt w tb pb ps uv rv us rs) :
    Calls Try.prog 26 #[.pointer (some ⟨tb, 0, none⟩)] w fun e w' => e = .returned (.string (joinB ps)) ∧ (∃ pb', TextAt w' tb pb' [joinB ps] uv rv us rs ∧ (pb' = pb ∨ w.heap.size ≤ pb')) ∧ Kept (oneBlk tb) w w' := by
  have hh := h.head
  have hr := h.row
  by_cases h1 : ps.length = 1
  · obtain ⟨p, rfl⟩ : ∃ p, ps = [p] := by
      match ps, h1 with
      | [p], _ => exact ⟨p, rfl⟩
    have e : joinB [p] = p := joinB_one p
    have HT : Hid (TextAt w tb pb [p] uv rv us rs) := h
    have c0 : w.cell? ⟨tb, 0, none⟩ = some (.slice (some ⟨pb, 0, none⟩) 1 1) := blk_cell hh rfl
    have c2 : w.cell? ⟨tb, 2, none⟩ = some (.int .u32 (bit true)) := blk_cell hh rfl
    have d0 : w.cell? ⟨pb, 0, none⟩ = some (.string p) := blk_cell hr rfl
    rw [e]
    clear h hh hr h1
    have HE : Hid (joinB [p] = p) := e
    clear e
    go_enter Try.func26, Try.ntmps26
    go_wp2_with (first
      | (go_at_call 35; refine (loadB tb 2 true _ c2).mono ?_; rintro e w1 ⟨rfl, rfl⟩))
    go_ret
    exact ⟨rfl, ⟨pb, HT.out, .inl rfl⟩, Kept.refl _ _⟩
  · have HT : Hid (TextAt w tb pb ps uv rv us rs) := h
    have c0 : w.cell? ⟨tb, 0, none⟩ = some (.slice (some ⟨pb, 0, none⟩) ps.length ps.length) := blk_cell hh rfl
    have c2 : w.cell? ⟨tb, 2, none⟩ = some (.int .u32 (bit false)) := by
      have := blk_cell hh (o := 2) rfl
      simpa [h1] using this
    have hsz : (joinB ps).size ≤ 4000 := by rw [joinB_size]; exact h.small
    have HJ : Hid (∀ u : World, Below w.heap.size w u → Calls Try.prog 36 #[.slice (some ⟨pb, 0, none⟩) ps.length ps.length, .string ⟨#[]⟩] u fun e w' => e = .returned (.string (joinB ps)) ∧ Below u.heap.size u w') := by
      intro u hu
      have hr' := keep_blk hu hr
      have k := Try.strings_Join pb 0 ps.length ps ⟨#[]⟩ u (fun j x hx => blk_cell hr' (by rw [Nat.zero_add]; simp [hx])) (blk_lt hr') (by have := h.few.2; omega) (Nat.le_refl _) (by
        have e : (Lib.join (ps.map (·.data.toList)) (⟨#[]⟩ : ByteArray).data.toList).length = (joinB ps).size := by
          rw [← join_joinB ps, ← size_toList]
        rw [e]; omega)
      rw [join_joinB ps] at k
      exact k
    obtain ⟨J, hJ⟩ : ∃ J, joinB ps = J := ⟨_, rfl⟩
    rw [hJ] at HJ hsz ⊢
    have HH : Hid (w.heap[tb]? = _) := hh
    clear h hh hr hJ h1
    go_enter Try.func26, Try.ntmps26
    go_wp2_with (first
      | (go_at_call 35; refine (loadB tb 2 false _ c2).mono ?_; rintro e w1 ⟨rfl, hw1⟩; subst w1)
      | (go_at_call 36; refine (HJ.out _ (Below.refl _ _)).mono ?_; rintro e w2 ⟨rfl, hb⟩)
      | (go_at_call 21; refine (stand1 tb w2.heap.size J _ _ _ _ _ _ (blk_alloc (keep_blk hb HH.out) _) (heap_alloc_new _ _) (by omega)).mono ?_; rintro e w3 ⟨rfl, hh3, hk3⟩; have e0 : w3.cell? ⟨tb, 0, none⟩ = some (.slice (some ⟨w2.heap.size, 0, none⟩) 1 1) := (blk_cell hh3 rfl); have r3 : w3.heap[w2.heap.size]? = some (.cells #[.string J] 9 (0, 0)) := (hk3.blk (heap_alloc_new _ _) (Nat.ne_of_gt (Nat.lt_of_lt_of_le (blk_lt HH.out) hb.size))); have e1 : w3.cell? ⟨w2.heap.size, 0, none⟩ = some (.string J) := (blk_cell r3 rfl)))
    go_ret
    have K : Kept (oneBlk tb) w w3 := ((Kept.of_below (F := oneBlk tb) hb).alloc).trans hk3
    refine ⟨rfl, ⟨w2.heap.size, HT.out.stood (ps' := [J]) K ?_ r3 (by simpa [total] using hsz) (by simp), .inr hb.size⟩, K⟩
    simpa [total, bit] using hh3

end Go.Proofs.Ytnhabinnmkjnbaa
