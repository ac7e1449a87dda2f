/- sync.Once, one goroutine: the parts of its slow road, and Do with (*sets.index).fill. -/
import Derived.Test.YtklfcjgambdncaaDoorFill
import Derived.Tactics
import Derived.Tactics2
import Derived.Defers
import Derived.Laws.Pointers
import Derived.Laws.LoneSync
import Derived.RegionTactic
import Derived.RegionCalls
import Derived.ChangeAlike
namespace Go.Proofs.YtklfcjgambdncaaDoor
open Go.RowKit Go.Maps

theorem disable (w : World) : (callFunc 55 #[]).run Tryd.prog w = .ok (.value (.tuple #[])) w := run_call_mark0 Tryd.func55 (by kernel_rfl) (by kernel_rfl) (by kernel_rfl) .disable (by kernel_rfl) w
theorem enable (w : World) : (callFunc 57 #[]).run Tryd.prog w = .ok (.value (.tuple #[])) w := run_call_mark0 Tryd.func57 (by kernel_rfl) (by kernel_rfl) (by kernel_rfl) .enable (by kernel_rfl) w
theorem acquire (a : Addr) (w : World) : (callFunc 58 #[.pointer (some a)]).run Tryd.prog w = .ok (.value (.tuple #[])) w := run_call_marked Tryd.func58 (by kernel_rfl) (by kernel_rfl) (by kernel_rfl) .acquire (by kernel_rfl) a w
theorem releaseMerge (a : Addr) (w : World) : (callFunc 60 #[.pointer (some a)]).run Tryd.prog w = .ok (.value (.tuple #[])) w := run_call_marked Tryd.func60 (by kernel_rfl) (by kernel_rfl) (by kernel_rfl) .releaseMerge (by kernel_rfl) a w

/-- '(*sync/atomic.Bool).Store(true)', entered as a deferred call: the cell holds 1. -/
theorem store_deferred (a : Addr) (x : Value) (u : FrameMode) (w : World) (hc : w.cell? a = some x) (hz : w.frozen? a = false) :
    CallsD Tryd.prog 32 #[.pointer (some a), .bool true] u w fun e u' w' => u' = u ∧ (e = .returned (.tuple #[]) ∧ w' = w.drew.setCell a (.int .u32 1)) := by
  have hc' : w.drew.cell? a = some x := by go_simp
  have hz' : w.drew.frozen? a = false := by go_simp
  have hst := run_call_store (P := Tryd.prog) Tryd.func47 (by kernel_rfl) (by kernel_rfl) (by kernel_rfl) (by kernel_rfl) (k := .u32) (y := 1) hc' hz'
  go_enter_d Tryd.func32, Tryd.ntmps32
  go_wp2
  go_region_calls
  all_goals (go_end0; exact ⟨rfl, rfl⟩)

set_option maxRecDepth 100000 in
set_option maxHeartbeats 1600000 in
/-- '(*sync.Mutex).Unlock', entered as a deferred call, the lock held and nobody waiting. -/
theorem unlock_deferred (a : Addr) (u : FrameMode) (w : World) (hc : w.cell? a = some (.int .i32 1)) (hz : w.frozen? a = false) :
    CallsD Tryd.prog 31 #[.pointer (some a)] u w fun e u' w' => u' = u ∧ (e = .returned (.tuple #[]) ∧ w' = w.setCell a (.int .i32 0)) := by
  have hd := disable
  have he := enable
  have hr := releaseMerge
  have hadd := run_call_add (P := Tryd.prog) Tryd.func61 (by kernel_rfl) (by kernel_rfl) (by kernel_rfl) .i32 (by kernel_rfl) (y := -1) (s := 0) hc hz (by simp [go_sem]; rfl)
  have hcv := run_convert_to_unsafe (P := Tryd.prog) (src := 88) (dst := 92) Tryd.underlying88 Tryd.underlying92 (by kernel_rfl) hc
  go_enter_d Tryd.func31, Tryd.ntmps31
  go_wp2
  go_end0
  go_wp2
  go_end0
  exact ⟨rfl, rfl⟩

set_option maxRecDepth 100000 in
set_option maxHeartbeats 1600000 in
/-- '(*sync.Mutex).Lock', the lock free. -/
theorem lock_free (a : Addr) (w : World) (hc : w.cell? a = some (.int .i32 0)) (hz : w.frozen? a = false) :
    Calls Tryd.prog 30 #[.pointer (some a)] w fun e w' => e = .returned (.tuple #[]) ∧ w' = w.setCell a (.int .i32 1) := by
  have hd := disable
  have he := enable
  have ha := acquire
  have hcas := run_call_cas_hit (P := Tryd.prog) Tryd.func56 (by kernel_rfl) (by kernel_rfl) (by kernel_rfl) .i32 (by kernel_rfl) (y := 1) hc hz
  have hc' : (w.setCell a (.int .i32 1)).cell? a = some (.int .i32 1) := World.cell?_setCell_same w a _ hc
  have hcv := run_convert_to_unsafe (P := Tryd.prog) (src := 88) (dst := 92) Tryd.underlying88 Tryd.underlying92 (by kernel_rfl) hc'
  go_enter Tryd.func30, Tryd.ntmps30
  go_wp2
  first | go_end0 | (simp only [Exit.inBlock, Exit.then]; refine bodyPost_ret (results_none rfl _ _ _) rfl ?_) | refine bodyPost_ret (results_none rfl _ _ _) rfl ?_
  go_wp2
  go_end0
  exact ⟨rfl, rfl⟩

theorem size_sc (w : World) (a : Addr) (v : Value) : (w.setCell a v).heap.size = w.heap.size := by simp

set_option maxRecDepth 100000 in
set_option maxHeartbeats 1600000 in
/-- '(*sync.Once).doSlow', not yet done and the lock free: fill is called; then the two deferred calls. -/
theorem slowC {H : Type} (b : Nat) (av : Value) (ls : List (List Int)) (w0 w : World) (hn : ls.length ≤ 100) (hl : ∀ l ∈ ls, l.length ≤ 1000 ∧ Fit l) (hT : Tab w0) (hA : Lists w0 av ls) (h0 : Below w0.heap.size w0 w) (hb0 : w0.heap.size ≤ b)
    (hblk : w.heap[b]? = some (.cells #[av, .int .u32 0, .int .i32 0, .int .u32 0, .map none] 45 (0, 0))) :
    Calls Tryd.prog 24 #[.pointer (some ⟨b, 1, none⟩), .func (.func 17) #[.pointer (some ⟨b, 0, none⟩)] #[]] w fun e w' => e = .returned (.tuple #[]) ∧
      w'.heap[b]? = some (.cells #[av, .int .u32 1, .int .i32 0, .int .u32 0, .map (some w.heap.size)] 45 (0, 0)) ∧ w'.ownsMap Tryd.prog 9 (plainElem (H := H) Tryd.prog 3) w.heap.size ls.length (dOf ls 0) ∧ Below b w w' := by
  have hb := blk_lt hblk
  have hblk1 : (w.setCell ⟨b, 2, none⟩ (.int .i32 1)).heap[b]? = some (.cells #[av, .int .u32 0, .int .i32 1, .int .u32 0, .map none] 45 (0, 0)) := heap_setCell hblk
  have hbel1 : Below b w (w.setCell ⟨b, 2, none⟩ (.int .i32 1)) := ((Below.refl _ w).mono (Nat.le_of_lt hb)).setCell (p := ⟨b, 2, none⟩) (Nat.le_refl _) _
  have G : Hid (Calls Tryd.prog 17 #[.pointer (some ⟨b, 0, none⟩)] (w.setCell ⟨b, 2, none⟩ (.int .i32 1)) fun e w' => e = .returned (.tuple #[]) ∧
      w'.heap[b]? = some (.cells #[av, .int .u32 0, .int .i32 1, .int .u32 0, .map (some w.heap.size)] 45 (0, 0)) ∧ w'.ownsMap Tryd.prog 9 (plainElem (H := H) Tryd.prog 3) w.heap.size ls.length (dOf ls 0) ∧ Below b (w.setCell ⟨b, 2, none⟩ (.int .i32 1)) w') := by
    have := fillC (H := H) b av _ _ _ _ ls w0 _ hn hl hT hA (h0.trans (hbel1.mono hb0)) hb0 hblk1
    rwa [size_sc] at this
  have c1 : w.cell? ⟨b, 2, none⟩ = some (.int .i32 0) := blk_cell hblk rfl
  have f1 := blk_frozen hblk 2
  have d0 : (w.setCell ⟨b, 2, none⟩ (.int .i32 1)).cell? ⟨b, 1, none⟩ = some (.int .u32 0) := blk_cell hblk1 rfl
  have hld := run_call_load (P := Tryd.prog) Tryd.func29 (by kernel_rfl) (by kernel_rfl) (by kernel_rfl) .u32 (by kernel_rfl) d0
  have hnot : ∀ (x : Bool) (w : World), (Op.unary .not (.bool x)).run Tryd.prog w = .ok (.bool (!x)) w := fun _ _ => rfl
  clear hblk hblk1 hT hA
  go_enter_defers Tryd.func24, Tryd.ntmps24
  go_wp2_with (first
    | (go_at_call 30; refine (lock_free ⟨b, 2, none⟩ _ c1 f1).mono ?_; rintro e w' ⟨rfl, rfl⟩)
    | (go_at_call 23; go_in)
    | (go_at_call 17; refine (G.out).mono ?_; rintro e w2 ⟨rfl, hblk2, hmap2, hb2⟩))
  refine leaves_cons (f := 32) (args := #[.pointer (some ⟨b, 1, none⟩), .bool true]) (by simp) (by simp [go_sem]) ?_
  refine (store_deferred ⟨b, 1, none⟩ (.int .u32 0) .returning _ (blk_cell hblk2 rfl) (blk_frozen hblk2 1)).mono ?_
  rintro e u' w3 ⟨rfl, rfl, rfl⟩
  have hblk3 : (w2.drew.setCell ⟨b, 1, none⟩ (.int .u32 1)).heap[b]? = some (.cells #[av, .int .u32 1, .int .i32 1, .int .u32 0, .map (some w.heap.size)] 45 (0, 0)) := heap_setCell (w := w2.drew) hblk2
  refine leaves_cons (f := 31) (args := #[.pointer (some ⟨b, 2, none⟩)]) (by simp [settle]) (by simp [go_sem]) ?_
  refine (unlock_deferred ⟨b, 2, none⟩ _ _ (blk_cell hblk3 rfl) (blk_frozen hblk3 2)).mono ?_
  rintro e u' w4 ⟨rfl, rfl, rfl⟩
  have hblk4 : ((w2.drew.setCell ⟨b, 1, none⟩ (.int .u32 1)).setCell ⟨b, 2, none⟩ (.int .i32 0)).heap[b]? = some (.cells #[av, .int .u32 1, .int .i32 0, .int .u32 0, .map (some w.heap.size)] 45 (0, 0)) := heap_setCell hblk3
  have hne : w.heap.size ≠ b := by omega
  have hmap4 := (hmap2.drew.setCell (a := ⟨b, 1, none⟩) hne (.int .u32 1)).setCell (a := ⟨b, 2, none⟩) hne (.int .i32 0)
  have hb4 : Below b w ((w2.drew.setCell ⟨b, 1, none⟩ (.int .u32 1)).setCell ⟨b, 2, none⟩ (.int .i32 0)) := (((hbel1.trans hb2).drew).setCell (p := ⟨b, 1, none⟩) (Nat.le_refl _) _).setCell (p := ⟨b, 2, none⟩) (Nat.le_refl _) _
  simp only [Leaves, settle]
  exact ⟨.tuple #[], by simp [results, Tryd.results24], rfl, hblk4, hmap4, hb4⟩

end Go.Proofs.YtklfcjgambdncaaDoor
