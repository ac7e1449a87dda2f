/- A strings.Builder of the call's own: copyCheck, WriteByte, WriteString; strings.Clone. -/
import Derived.Test.YtkpakpfjgeannaaShelf
import Derived.Test.YtkpakpfjgeannaaPc
import Derived.Lib.OthersKept
namespace Go.Proofs.Ytkpakpfjgeannaa
open Go.RowKit Go.Maps

set_option maxRecDepth 20000 in
theorem szBld : (Try.prog.info? 43).map (fun i => i.size) = some 2 := by kernel_rfl
set_option maxRecDepth 20000 in
theorem szByte : (Try.prog.info? 5).map (fun i => (i.zero, i.size, i.bytes)) = some (some (.int .u8 0), 1, 1) := by kernel_rfl
set_option maxRecDepth 20000 in
theorem liesBld : liesAt Try.prog Try.prog.depth 43 (2 / Try.prog.cellsOf 43) 0 43 1 = true := by kernel_rfl
/-- a builder that has been written to -/
abbrev BldU (w : World) (B b : Nat) (bs : List Value) : Prop := Lib.BuilderAt 43 5 B b (.pointer (some ⟨b, 0, none⟩)) bs w
abbrev BldA (w : World) (B b : Nat) (bs : List Value) : Prop := Lib.IsBuilder 43 5 B b bs w
set_option maxRecDepth 20000 in
set_option maxHeartbeats 1000000 in
theorem chkUsed (b : Nat) (w : World) (h0 : w.cell? ⟨b, 0, none⟩ = some (.pointer (some ⟨b, 0, none⟩))) :
    Calls Try.prog 27 #[.pointer (some ⟨b, 0, none⟩)] w fun e w' => e = .returned (.tuple #[]) ∧ w' = w := by
  obtain ⟨j, hj, _⟩ := Option.map_eq_some_iff.1 szBld
  have hne := Lib.run_neq_ptr_same (P := Try.prog) w ⟨b, 0, none⟩ Try.underlying40 hj
  go_enter Try.func27, Try.ntmps27
  go_wp2
  go_end0
  exact ⟨rfl, rfl⟩
set_option maxRecDepth 20000 in
set_option maxHeartbeats 1000000 in
theorem chkFresh (b : Nat) (w : World) (h0 : w.cell? ⟨b, 0, none⟩ = some (.pointer none)) (hsh : w.shape? b = some (43, 2)) (hfz : w.frozen? ⟨b, 0, none⟩ = false) :
    Calls Try.prog 27 #[.pointer (some ⟨b, 0, none⟩)] w fun e w' => e = .returned (.tuple #[]) ∧ w' = w.setCell ⟨b, 0, none⟩ (.pointer (some ⟨b, 0, none⟩)) := by
  obtain ⟨j, hj, hjs⟩ := Option.map_eq_some_iff.1 szBld
  have r1 := Lib.run_to_unsafe (P := Try.prog) w ⟨b, 0, none⟩ Try.underlying40 Try.underlying57 hj (by rw [hjs]; decide) hsh (Nat.zero_lt_succ 1)
  have r2 := Lib.run_from_unsafe (P := Try.prog) w ⟨b, 0, none⟩ Try.underlying57 Try.underlying40 hj hsh liesBld
  have r3 : ∀ (x : Value) (u : World), (callFunc 33 #[x]).run Try.prog u = .ok (.value x) u := fun x u => by
    rw [run_callFunc_extern Try.func33 (by kernel_rfl) (by kernel_rfl) (by kernel_rfl) (e := Extern.AbiNoEscape.same) (by kernel_rfl), Lib.run_noEscape]
    rfl
  go_enter Try.func27, Try.ntmps27
  go_wp2
  go_end0
  exact ⟨rfl, rfl⟩
set_option maxRecDepth 20000 in
theorem chkC (B b : Nat) (bs : List Value) (w : World) (h : BldA w B b bs) :
    Calls Try.prog 27 #[.pointer (some ⟨b, 0, none⟩)] w fun e w' => e = .returned (.tuple #[]) ∧ BldU w' B b bs ∧ Below B w w' ∧ Lib.OthersKept 5 (some b) w w' := by
  rcases h with h | h
  · refine (chkFresh b w h.cell0 h.shape h.frozen0).mono ?_
    rintro e w' ⟨rfl, rfl⟩
    exact ⟨rfl, h.used _, (Below.refl B w).setCell (p := ⟨b, 0, none⟩) h.1 _, (Lib.OthersKept.refl _ _ w).setCell ⟨b, 0, none⟩ rfl _⟩
  · refine (chkUsed b w h.cell0).mono ?_
    rintro e w' ⟨rfl, rfl⟩
    exact ⟨rfl, h, Below.refl B _, Lib.OthersKept.refl _ _ _⟩
theorem rowKind {w : World} {B : Nat} {e : TypeId} {v : Value} {n : Nat} {xs : List Value} (h : w.ownsRow B e 1 v n xs) : ∀ g, v.ownBlock = some g → ∃ c fz, w.heap[g]? = some (.cells c e fz) := by
  intro g hg
  rcases h.2 with ⟨rfl, _⟩ | ⟨g', cap, cur, rfl, _, h3, _⟩
  · cases hg
  · have hg : g' = g := by injection hg
    subst hg
    exact ⟨_, _, h3⟩
set_option maxRecDepth 20000 in
set_option maxHeartbeats 2000000 in
theorem putStrC (B b : Nat) (t s : Txt) (w : World) (h : BldA w B b (Lib.byteCells t)) (hlen : t.length + s.length ≤ 1000000000) (hBw : B ≤ w.heap.size) :
    Calls Try.prog 22 #[.pointer (some ⟨b, 0, none⟩), .string (strT s)] w fun e w' => e = .returned (.tuple #[.int .i64 (s.length : Int), .nilIface]) ∧ BldU w' B b (Lib.byteCells (t ++ s)) ∧ Below B w w' ∧ Lib.OthersKept 5 (some b) w w' := by
  have hsz := strT_size s
  obtain ⟨i0, hi, hz0, hz1, hz2⟩ := info_parts szByte
  have GC := hid (chkC B b _ w h)
  have happ : Hid (Lib.byteCells t ++ Lib.strCells (strT s) = Lib.byteCells (t ++ s)) := hid (by rw [Lib.byteCells_append]; rfl)
  go_enter Try.func22, Try.ntmps22
  go_wp2_with (go_at_call 27; refine GC.out.mono ?_; clear GC)
  rintro e w1 ⟨rfl, h1, hb1, hk1⟩
  obtain ⟨hB, v, hbk, hown, hne⟩ := h1
  rw [Lib.byteCells_length] at hown
  obtain ⟨c0, c1, -, -⟩ := cells2m hbk
  have hbs := hb1.size
  have hlt := blk_lt hbk
  go_wp2_with (at_builtin; refine Lib.wpList_append_own_string _ rfl _ _ 41 9 rfl B 5 i0 Try.underlying41 Try.underlying9 hi hz0 hz1 hz2 _ _ _ rfl hown (strT s) rfl (by (unfold maxLen); omega) (by omega) (by omega) ?_)
  intro v' w2 hown' hgrow _
  have hb2 : w2.heap[b]? = some (.cells #[.pointer (some ⟨b, 0, none⟩), v] 43 (0, 0)) := (hgrow.block b hlt (fun e => hne e.symm)).trans hbk
  obtain ⟨d0, d1, -, f1⟩ := cells2m hb2
  obtain ⟨ao, cp, hv'⟩ := own_shape hown'
  subst hv'
  go_wp2
  go_ret2
  refine ⟨rfl, ?_, ?_, (hk1.grown hgrow (rowKind hown)).setCell ⟨b, 1, none⟩ rfl _⟩
  · have := Lib.BuilderAt.put (T := 43) (e := 5) hB hb2 (bs' := Lib.byteCells t ++ Lib.strCells (strT s)) (by rw [List.length_append, Lib.strCells_length, Lib.byteCells_length, strT_size]; exact hown') (by decide)
    rw [happ.out] at this
    exact this
  · exact (hb1.grown hgrow (by omega) (fun k hk => (hown.lt k hk).1)).setCell (p := ⟨b, 1, none⟩) hB _
set_option maxRecDepth 20000 in
set_option maxHeartbeats 2000000 in
theorem putByteC (B b : Nat) (t : Txt) (c : UInt8) (w : World) (h : BldA w B b (Lib.byteCells t)) (hlen : t.length + 1 ≤ 1000000000) (hBw : B ≤ w.heap.size) :
    Calls Try.prog 21 #[.pointer (some ⟨b, 0, none⟩), .int .u8 (c.toNat : Int)] w fun e w' => e = .returned .nilIface ∧ BldU w' B b (Lib.byteCells (t ++ [c])) ∧ Below B w w' ∧ Lib.OthersKept 5 (some b) w w' := by
  obtain ⟨i0, hi, hz0, hz1, hz2⟩ := info_parts szByte
  have GC := hid (chkC B b _ w h)
  have happ : Hid (Lib.byteCells t ++ [.int .u8 (c.toNat : Int)] = Lib.byteCells (t ++ [c])) := hid (by rw [Lib.byteCells_append]; rfl)
  generalize (c.toNat : Int) = cn at *
  go_enter Try.func21, Try.ntmps21
  go_wp2_with (go_at_call 27; refine GC.out.mono ?_; clear GC)
  rintro e w1 ⟨rfl, h1, hb1, hk1⟩
  obtain ⟨hB, v, hbk, hown, hne⟩ := h1
  rw [Lib.byteCells_length] at hown
  obtain ⟨c0, c1, -, -⟩ := cells2m hbk
  have hbs := hb1.size
  have hlt := blk_lt hbk
  obtain ⟨va, vc, hve⟩ := own_shape hown
  subst hve
  have hownA := own_below hown (al' w1 (.cells #[.int .u8 cn] 5))
  go_wp2_with (at_builtin; refine wpList_append_lies _ (by rfl) _ _ _ (by rfl) B 5 i0 (.int .u8 0) 1 1 Try.underlying41 hi hz0 hz1 hz2 rfl (by decide) _ _ _ (by rfl) hownA ⟨w1.heap.size, 0, none⟩ 1 1 [.int .u8 cn] (by rfl) (by rfl) (World.news_of_block (heap_new w1 (.cells #[.int .u8 cn] 5))) (by simp [Value.oneCell']) (by omega) (by (unfold maxLen); omega) (by omega) (by show B ≤ (w1.heap.push _).size; rw [Array.size_push]; omega) (w1.alloc (.cells #[.int .u8 cn] 5)).heap.size rfl ?_)
  intro g7 c7 w2 hown' hgrow hat7 hlt7
  have hb2 : w2.heap[b]? = some (.cells #[.pointer (some ⟨b, 0, none⟩), .slice va t.length vc] 43 (0, 0)) := (hgrow.block b (by show b < (w1.heap.push _).size; rw [Array.size_push]; omega) (fun e => hne e.symm)).trans (hs_keep hbk (al' w1 _))
  obtain ⟨d0, d1, -, f1⟩ := cells2m hb2
  go_wp2
  go_ret
  refine ⟨rfl, ?_, ?_, ((hk1.alloc _).grown hgrow (rowKind hownA)).setCell ⟨b, 1, none⟩ rfl _⟩
  · have := Lib.BuilderAt.put (T := 43) (e := 5) hB hb2 (bs' := Lib.byteCells t ++ [.int .u8 cn]) (by rw [List.length_append, Lib.byteCells_length]; exact hown') (by decide)
    rw [happ.out] at this
    exact this
  · exact ((hb1.alloc (by omega) _).grown hgrow (by show B ≤ (w1.heap.push _).size; rw [Array.size_push]; omega) (fun k hk => (hownA.lt k hk).1)).setCell (p := ⟨b, 1, none⟩) hB _
set_option maxRecDepth 20000 in
theorem cloneC (s : ByteArray) (w : World) (hlim : s.size ≤ 281474976710656) :
    Calls Try.prog 26 #[.string s] w fun e w' => e = .returned (.string s) ∧ Below w.heap.size w w' := by
  go_enter Try.func26, Try.ntmps26
  go_wp2_with (go_at_call 32; refine (Try.stringslite_Clone _ _ hlim).mono ?_; rintro e w1 ⟨rfl, hb⟩)
  go_ret
  exact ⟨rfl, hb⟩

end Go.Proofs.Ytkpakpfjgeannaa
