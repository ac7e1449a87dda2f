/- The contracts of (*sync.Once).Do, (*sets.index).place and sets.Find. -/
import Derived.Test.YtklfcjgambdncaaDoorOnce
namespace Go.Proofs.YtklfcjgambdncaaDoor
open Go.RowKit Go.Maps

set_option maxRecDepth 100000 in
set_option maxHeartbeats 1600000 in
theorem doC {H : Type} (b : Nat) (av : Value) (ls : List (List Int)) (w0 w : World) (hn : ls.length ≤ 100) (hl : ∀ l ∈ ls, l.length ≤ 1000 ∧ Fit l) (hT : Tab w0) (hA : Lists w0 av ls) (h0 : Below w0.heap.size w0 w) (hb0 : w0.heap.size ≤ b)
    (hblk : w.heap[b]? = some (.cells #[av, .int .u32 0, .int .i32 0, .int .u32 0, .map none] 45 (0, 0))) :
    Calls Tryd.prog 16 #[.pointer (some ⟨b, 1, none⟩), .func (.func 17) #[.pointer (some ⟨b, 0, none⟩)] #[]] w fun e w' => e = .returned (.tuple #[]) ∧
      w'.heap[b]? = some (.cells #[av, .int .u32 1, .int .i32 0, .int .u32 0, .map (some w.heap.size)] 45 (0, 0)) ∧ w'.ownsMap Tryd.prog 9 (plainElem (H := H) Tryd.prog 3) w.heap.size ls.length (dOf ls 0) ∧ Below b w w' := by
  have G := hid (slowC (H := H) b av ls w0 w hn hl hT hA h0 hb0 hblk)
  have d0 : w.cell? ⟨b, 1, none⟩ = some (.int .u32 0) := blk_cell hblk rfl
  have hld := run_call_load (P := Tryd.prog) Tryd.func29 (by kernel_rfl) (by kernel_rfl) (by kernel_rfl) .u32 (by kernel_rfl) d0
  have hnot : ∀ (x : Bool) (w : World), (Op.unary .not (.bool x)).run Tryd.prog w = .ok (.bool (!x)) w := fun _ _ => rfl
  clear hblk hT hA
  go_enter Tryd.func16, Tryd.ntmps16
  go_wp2_with (first
    | (go_at_call 24; refine (G.out).mono ?_; rintro e w1 ⟨rfl, h1, h2, h3⟩)
    | (go_at_call 23; go_in))
  go_end0
  exact ⟨rfl, h1, h2, h3⟩

theorem keyOfB (l : List Int) (hl : l.length ≤ 1000) (hF : Fit l) : keyOf Tryd.prog 9 (.string ⟨(keyB l).toArray⟩) = some (.string (keyB l)) := by
  have hks := keyB_len l hF
  exact WideMaps.keyOf_string_mk Tryd.underlying9 (by show (keyB l).toArray.size ≤ maxLen; rw [List.size_toArray]; unfold maxLen; omega)
set_option maxRecDepth 100000 in
theorem look_yes {H : Type} {u : World} {m n : Nat} {ls : List (List Int)} {s : List Int} (h : u.ownsMap Tryd.prog 9 (plainElem (H := H) Tryd.prog 3) m n (dOf ls 0)) (hl : s.length ≤ 1000) (hF : Fit s) (hs : s ∈ ls) :
    (Instr.lookup 43 (.map (some m)) (.string ⟨(keyB s).toArray⟩) true).run Tryd.prog u = .ok (.tuple #[.int .i64 (findL ls s 0), .bool true]) u := by
  obtain ⟨v, ps, hrun, hR⟩ := h.look_ok law9 Tryd.underlying43 (zero3 u) (plainElem_int Tryd.underlying3 (WalkArith.wf_i64 (by omega))) (keyOfB s hl hF)
  obtain ⟨h1, h2⟩ := dOf_yes (H := H) ls s 0 hs
  rw [h2] at hR
  obtain ⟨c, rfl, hc, _⟩ := plainElem_int_inv Tryd.underlying3 hR
  simp only [Prod.mk.injEq] at hc
  have hc1 := hc.1
  injection hc1 with hc1
  injection hc1 with _ hc1
  rw [hrun, h1, hc1]
set_option maxRecDepth 100000 in
theorem look_no {H : Type} {u : World} {m n : Nat} {ls : List (List Int)} {s : List Int} (h : u.ownsMap Tryd.prog 9 (plainElem (H := H) Tryd.prog 3) m n (dOf ls 0)) (hl : s.length ≤ 1000) (hF : Fit s) (hs : ¬ s ∈ ls) :
    ∃ c, (Instr.lookup 43 (.map (some m)) (.string ⟨(keyB s).toArray⟩) true).run Tryd.prog u = .ok (.tuple #[.int .i64 c, .bool false]) u := by
  obtain ⟨v, ps, hrun, hR⟩ := h.look_ok law9 Tryd.underlying43 (zero3 u) (plainElem_int Tryd.underlying3 (WalkArith.wf_i64 (by omega))) (keyOfB s hl hF)
  obtain ⟨c, rfl, hc, _⟩ := plainElem_int_inv Tryd.underlying3 hR
  exact ⟨c, by rw [hrun, dOf_no (H := H) ls s 0 hs]⟩

attribute [local go_sem ↓] Go.wp_at_zero Go.wp_at_succ

set_option maxRecDepth 100000 in
set_option maxHeartbeats 4000000 in
theorem placeC (b : Nat) (av vs : Value) (ls : List (List Int)) (s : List Int) (w0 w : World) (hn : ls.length ≤ 100) (hl : ∀ l ∈ ls, l.length ≤ 1000 ∧ Fit l) (hsl : s.length ≤ 1000) (hsF : Fit s) (hT : Tab w0) (hA : Lists w0 av ls) (hS : Nums w0 vs s) (h0 : Below w0.heap.size w0 w) (hb0 : w0.heap.size ≤ b)
    (hblk : w.heap[b]? = some (.cells #[av, .int .u32 0, .int .i32 0, .int .u32 0, .map none] 45 (0, 0))) :
    Calls Tryd.prog 11 #[.pointer (some ⟨b, 0, none⟩), vs] w fun e w' => e = .returned (.int .i64 (findL ls s 0)) ∧ Below b w w' := by
  have G := hid (doC (H := Unit) b av ls w0 w hn hl hT hA h0 hb0 hblk)
  have GK : Hid (∀ v l u, l.length ≤ 1000 → Fit l → Nums u v l → Tab u → Calls Tryd.prog 18 #[v] u fun e w' => e = .returned (.string ⟨(keyB l).toArray⟩) ∧ Below u.heap.size u w') := keyC
  have hb := blk_lt hblk
  have hT0 := hid hT
  have hS0 := hid hS
  have hmf : ∀ (fn : Fn) (first cap : Array Value) (w : World), (Instr.makeFunc fn first cap).run Tryd.prog w = .ok (.func fn first cap) w := fun _ _ _ _ => rfl
  clear hblk hT hA hS
  by_cases hs : s ∈ ls
  · have hge := find_ge ls s 0 hs
    go_enter Tryd.func11, Tryd.ntmps11
    go_wp2_with (first | (go_at_call 16; refine (G.out).mono ?_; rintro e w1 ⟨rfl, hblk1, hmap1, hb1⟩) | fail)
    have h01 : Below w0.heap.size w0 w1 := h0.trans (hb1.mono hb0)
    have hN1 := hid (hS0.out.keep h01)
    have hT1 := hid (hT0.out.keep h01)
    have c4 : w1.cell? ⟨b, 4, none⟩ = some (.map (some w.heap.size)) := blk_cell hblk1 rfl
    have hblk1 := hid hblk1
    have hmap1 := hid hmap1
    go_region_law ((first
      | (refine step_call (by rfl) 18 #[vs] (by go_simp) (GK.out vs s _ hsl hsF (hN1.out.keep (Below.refl _ _).drew) (hT1.out.keep (Below.refl _ _).drew)) ?_; rintro e w2 ⟨rfl, hb2'⟩; refine ⟨_, rfl, ?_⟩; have hbw : Below w1.heap.size w1 w2 := ((Below.refl w1.heap.size w1).drew.trans (show Below w1.heap.size w1.drew w2 from hb2')); have hblk2 := (hbw.block b (blk_lt hblk1.out)).trans hblk1.out; have d4 : w2.cell? ⟨b, 4, none⟩ = some (.map (some w.heap.size)) := blk_cell hblk2 rfl; have hrun := look_yes (own_map_below hmap1.out hbw) hsl hsF hs)))
    all_goals
      go_wp2
      go_ret
      exact ⟨rfl, hb1.trans (hbw.mono (Nat.le_of_lt (blk_lt hblk1.out)))⟩
  · have hres := find_no ls s 0 hs
    go_enter Tryd.func11, Tryd.ntmps11
    go_wp2_with (first | (go_at_call 16; refine (G.out).mono ?_; rintro e w1 ⟨rfl, hblk1, hmap1, hb1⟩) | fail)
    have h01 : Below w0.heap.size w0 w1 := h0.trans (hb1.mono hb0)
    have hN1 := hid (hS0.out.keep h01)
    have hT1 := hid (hT0.out.keep h01)
    have c4 : w1.cell? ⟨b, 4, none⟩ = some (.map (some w.heap.size)) := blk_cell hblk1 rfl
    have hblk1 := hid hblk1
    have hmap1 := hid hmap1
    go_region_law ((first
      | (refine step_call (by rfl) 18 #[vs] (by go_simp) (GK.out vs s _ hsl hsF (hN1.out.keep (Below.refl _ _).drew) (hT1.out.keep (Below.refl _ _).drew)) ?_; rintro e w2 ⟨rfl, hb2'⟩; refine ⟨_, rfl, ?_⟩; have hbw : Below w1.heap.size w1 w2 := ((Below.refl w1.heap.size w1).drew.trans (show Below w1.heap.size w1.drew w2 from hb2')); have hblk2 := (hbw.block b (blk_lt hblk1.out)).trans hblk1.out; have d4 : w2.cell? ⟨b, 4, none⟩ = some (.map (some w.heap.size)) := blk_cell hblk2 rfl; obtain ⟨c, hrun⟩ := look_no (own_map_below hmap1.out hbw) hsl hsF hs)))
    all_goals
      go_wp2
      go_ret
      exact ⟨by rw [hres]; rfl, hb1.trans (hbw.mono (Nat.le_of_lt (blk_lt hblk1.out)))⟩

set_option maxHeartbeats 1000000 in
theorem findC (av vs : Value) (ls : List (List Int)) (s : List Int) (w : World) (hn : ls.length ≤ 100) (hl : ∀ l ∈ ls, l.length ≤ 1000 ∧ Fit l) (hsl : s.length ≤ 1000) (hsF : Fit s) (hT : Tab w) (hA : Lists w av ls) (hS : Nums w vs s) :
    Calls Tryd.prog 5 #[av, vs] w fun e w' => e = .returned (.int .i64 (findL ls s 0)) ∧ Below w.heap.size w w' := by
  have hb0 : Below w.heap.size w (w.alloc (.cells #[av, .int .u32 0, .int .i32 0, .int .u32 0, .map none] 45)) := (Below.refl _ w).alloc (Nat.le_refl _) _
  have G := hid (placeC w.heap.size av vs ls s w (w.alloc (.cells #[av, .int .u32 0, .int .i32 0, .int .u32 0, .map none] 45)) hn hl hsl hsF hT hA hS hb0 (Nat.le_refl _) (by
    show (w.heap.push _)[w.heap.size]? = _
    simp))
  generalize findL ls s 0 = r at G ⊢
  obtain ⟨aa, ca, rfl, _⟩ := hA
  clear hS hT
  go_enter Tryd.func5, Tryd.ntmps5
  go_wp2_with (go_at_call 11; refine (G.out).mono ?_; rintro e w1 ⟨rfl, hb1⟩)
  go_ret
  exact ⟨rfl, hb0.trans hb1⟩

end Go.Proofs.YtklfcjgambdncaaDoor
