/- dfa.placesOf, where a rule isn't right. dfa.Build, of rules that are refused. What layer 8's laws lean on. -/
import Derived.Test.YtonlcnmlklaicaaGreatDoorJ29
import Derived.Test.YtonlcnmlklaicaaGreatDoorJ26
import Derived.Test.YtonlcnmlklaicaaGreatDoorJ32
import Derived.Test.YtonlcnmlklaicaaGreatDoorJ25
namespace Go.Proofs.YtonlcnmlklaicaaGreatDoor
open Go.RowKit

set_option maxRecDepth 20000 in
/-- .. and where they are too many -/
theorem placesMany (a : Option Addr) (n c : Nat) (w : World) (hn : 16 < n) (hn2 : n ≤ 9223372036854775807) :
    Calls Tryz.prog 26 #[.slice a n c] w fun z w' => z = .returned (.tuple #[.agg #[.int .i64 0, .slice none 0 0, .slice none 0 0, .slice none 0 0], .int .i64 1]) ∧ Below w.heap.size w w' := by
  have hnz : (16 : Int) < (n : Int) := by omega
  have hal := hid (al' w (.cells #[.int .i64 0, .slice none 0 0, .slice none 0 0, .slice none 0 0] 70))
  have hz := hid (heap_new w (.cells #[.int .i64 0, .slice none 0 0, .slice none 0 0, .slice none 0 0] 70))
  obtain ⟨x0, x1, x2, x3, y0, y1, y2, y3⟩ := cells4p hz.out
  go_enter Tryz.func26, Tryz.ntmps26
  go_wp2
  exact bodyPost_ret (v := .tuple #[.agg #[.int .i64 0, .slice none 0 0, .slice none 0 0, .slice none 0 0], .int .i64 1]) (by simp [results, Tryz.results26, go_sem, x0, x1, x2, x3]) rfl ⟨rfl, hal.out⟩

end Go.Proofs.YtonlcnmlklaicaaGreatDoor
namespace Go.Proofs.YtonlcnmlklaicaaGreatDoor
open Go.RowKit

theorem put2n_blk {w : World} {b : Nat} {x0 x1 : Value} {T : TypeId} {fr : Nat × Nat} (h : w.heap[b]? = some (.cells #[x0, x1] T fr)) : ((w.setCell ⟨b, 0, none⟩ (.slice none 0 0)).setCell ⟨b, 1, none⟩ (.slice none 0 0)).heap[b]? = some (.cells #[.slice none 0 0, .slice none 0 0] T fr) := heap_setCell (heap_setCell h)
theorem no_facts {w w1 : World} (hb1 : Below (w.alloc (.cells #[.slice none 0 0, .slice none 0 0] 25)).heap.size (w.alloc (.cells #[.slice none 0 0, .slice none 0 0] 25)) w1) :
    Below w.heap.size w (w1.alloc (.cells #[.int .i64 0, .slice none 0 0, .slice none 0 0, .slice none 0 0] 70)) ∧
    (w1.alloc (.cells #[.int .i64 0, .slice none 0 0, .slice none 0 0, .slice none 0 0] 70)).cell? ⟨w.heap.size, 0, none⟩ = some (.slice none 0 0) ∧ (w1.alloc (.cells #[.int .i64 0, .slice none 0 0, .slice none 0 0, .slice none 0 0] 70)).cell? ⟨w.heap.size, 1, none⟩ = some (.slice none 0 0) ∧
    (w1.alloc (.cells #[.int .i64 0, .slice none 0 0, .slice none 0 0, .slice none 0 0] 70)).frozen? ⟨w.heap.size, 0, none⟩ = false ∧ (w1.alloc (.cells #[.int .i64 0, .slice none 0 0, .slice none 0 0, .slice none 0 0] 70)).frozen? ⟨w.heap.size, 1, none⟩ = false ∧
    (((w1.alloc (.cells #[.int .i64 0, .slice none 0 0, .slice none 0 0, .slice none 0 0] 70)).setCell ⟨w.heap.size, 0, none⟩ (.slice none 0 0)).setCell ⟨w.heap.size, 1, none⟩ (.slice none 0 0)).cell? ⟨w.heap.size, 0, none⟩ = some (.slice none 0 0) ∧
    (((w1.alloc (.cells #[.int .i64 0, .slice none 0 0, .slice none 0 0, .slice none 0 0] 70)).setCell ⟨w.heap.size, 0, none⟩ (.slice none 0 0)).setCell ⟨w.heap.size, 1, none⟩ (.slice none 0 0)).cell? ⟨w.heap.size, 1, none⟩ = some (.slice none 0 0) := by
  have hz0 := heap_new w (.cells #[.slice none 0 0, .slice none 0 0] 25)
  have hbz := bl_step hb1 (al' w1 (.cells #[.int .i64 0, .slice none 0 0, .slice none 0 0, .slice none 0 0] 70))
  have hz2 := (hbz.block w.heap.size (blk_lt hz0)).trans hz0
  obtain ⟨x0, x1, y0, y1⟩ := cells2m hz2
  obtain ⟨r0, r1, _⟩ := cells2m (put2n_blk hz2)
  exact ⟨bl_step (al' w _) hbz, x0, x1, y0, y1, r0, r1⟩
set_option maxRecDepth 20000 in
/-- Build hands on what placesOf refuses -/
theorem buildNo (v : Value) (w : World) (h : ∀ u, Below w.heap.size w u → Calls Tryz.prog 26 #[v] u fun z w' => z = .returned (.tuple #[.agg #[.int .i64 0, .slice none 0 0, .slice none 0 0, .slice none 0 0], .int .i64 1]) ∧ Below u.heap.size u w') :
    Calls Tryz.prog 17 #[v] w fun z w' => z = .returned (.tuple #[.agg #[.slice none 0 0, .slice none 0 0], .int .i64 1]) ∧ Below w.heap.size w w' := by
  have hb0 := hid (al' w (.cells #[.slice none 0 0, .slice none 0 0] 25))
  have GP := hid (h _ hb0.out)
  clear h
  go_enter Tryz.func17, Tryz.ntmps17
  go_wp2_with (go_at_call 26; refine GP.out.mono ?_; rintro z w1 ⟨rfl, hb1⟩; obtain ⟨hbe, x0, x1, y0, y1, r0, r1⟩ := no_facts hb1; have hbe := hid hbe)
  exact bodyPost_ret (v := .tuple #[.agg #[.slice none 0 0, .slice none 0 0], .int .i64 1]) (by simp [results, Tryz.results17, go_sem, r0, r1]) rfl ⟨rfl, bl_set (bl_set hbe.out w.heap.size 0 _ (Nat.le_refl _)) w.heap.size 1 _ (Nat.le_refl _)⟩

end Go.Proofs.YtonlcnmlklaicaaGreatDoor
namespace Go.Proofs.YtonlcnmlklaicaaGreatDoor
open Go.RowKit

theorem trees_of : ∀ {L : List (List Cel)}, L.all rightB = true → ∃ ts : List Rx, L = ts.map post ∧ ∀ t ∈ ts, t.ok ∧ (post t).length ≤ 60
  | [], _ => ⟨[], rfl, fun t ht => by cases ht⟩
  | l :: L, h => by
    rw [List.all_cons, Bool.and_eq_true] at h
    obtain ⟨ts, e, hts⟩ := trees_of h.2
    obtain ⟨t, h1, h2, h3⟩ := right_tree h.1
    refine ⟨t :: ts, by rw [List.map_cons, h2, e], fun x hx => ?_⟩
    rcases List.mem_cons.1 hx with rfl | hx
    · exact ⟨h1, by rw [h2]; exact h3⟩
    · exact hts x hx
/-- what the laws know of an automaton that was built -/
structure Blt (ts : List Rx) (all : List Sp) (n : Nat) : Prop where
  sp : SpAll ts all
  ru : RuS ts all
  to : BldTo all n
  rgt : RgtA (nxtK all n) (accK all n)
end Go.Proofs.YtonlcnmlklaicaaGreatDoor
