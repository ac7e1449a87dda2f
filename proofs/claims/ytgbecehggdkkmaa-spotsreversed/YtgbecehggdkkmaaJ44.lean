/- The reader: read, which catches faults. Parse. -/
import Derived.Test.YtgbecehggdkkmaaJ43
import Derived.Defers
import Derived.Recover
namespace Go.Proofs.Ytgbecehggdkkmaa
open Go.RowKit

set_option maxRecDepth 20000 in
theorem catch_fault (b : Nat) (n : Int) (x0 x1 x2 : Value) (w : World) (h0 : w.heap[b]? = some (.cells #[x0] 22 (0, 0))) (h1 : w.heap[b + 1]? = some (.cells #[x1] 3 (0, 0))) (h2 : w.heap[b + 2]? = some (.cells #[x2] 28 (0, 0))) :
    CallsD Try.prog 56 #[.pointer (some ⟨b, 0, none⟩), .pointer (some ⟨b + 1, 0, none⟩), .pointer (some ⟨b + 2, 0, none⟩)] (.panicking [{ v := .iface 79 (.int .i64 n), recovered := false }]) w fun e u' w' =>
      e = .returned (.tuple #[]) ∧ u' = .panicking [{ v := .iface 79 (.int .i64 n), recovered := true }] ∧ (w'.cell? ⟨b, 0, none⟩ = some (.slice none 0 0) ∧ w'.cell? ⟨b + 1, 0, none⟩ = some (.int .i64 n) ∧ w'.cell? ⟨b + 2, 0, none⟩ = some (.int .i64 1)) ∧ Below b w w' := by
  have c0 := blk_cell (o := 0) (v := x0) h0 rfl
  have c1 := blk_cell (o := 0) (v := x1) h1 rfl
  have c2 := blk_cell (o := 0) (v := x2) h2 rfl
  have f0 := blk_frozen h0 0
  have f1 := blk_frozen h1 0
  have f2 := blk_frozen h2 0
  have ha : ∀ u : World, (Instr.typeAssert (.iface 79 (.int .i64 n)) 20 79 false).run Try.prog u = .ok (.int .i64 n) u := fun u => by kernel_rfl
  refine callsD_of_wpS Try.func56 rfl fun c₀ cs hu => ?_
  apply wpS_seq
  apply wpS_region
  simp [wpOpsS, go_sem, recoverD, hu, Try.ntmps56, Exit.thenS]
  refine wpS_of_wp ?_
  rw [show (#[Value.pointer (some ⟨b, 0, none⟩), .pointer (some ⟨b + 1, 0, none⟩), .pointer (some ⟨b + 2, 0, none⟩)] ++ ((Array.replicate 6 undef).setIfInBounds 1 (Value.iface 79 (.int .i64 n))).setIfInBounds 0 (Value.iface 79 (.int .i64 n))) = #[Value.pointer (some ⟨b, 0, none⟩), .pointer (some ⟨b + 1, 0, none⟩), .pointer (some ⟨b + 2, 0, none⟩), .iface 79 (.int .i64 n), .iface 79 (.int .i64 n), undef, undef, undef, undef] from rfl]
  go_wp2_with fail
  go_region_with (fail)
  all_goals
    go_wp2
    exact ⟨rfl, _, rfl, .tuple #[], by simp [results, Try.results56], rfl, rfl, ⟨by simp [go_sem, c0], by simp [go_sem, c1], by simp [go_sem, c2]⟩, (bl_set (bl_set (bl_set (Below.refl _ _) b 0 _ (Nat.le_refl _)) (b + 1) 0 _ (by omega)) (b + 2) 0 _ (by omega)).drew⟩

set_option maxRecDepth 20000 in
theorem catch_idle (p q r : Addr) (w : World) :
    CallsD Try.prog 56 #[.pointer (some p), .pointer (some q), .pointer (some r)] .returning w fun e u' w' => e = .returned (.tuple #[]) ∧ u' = .returning ∧ w' = w := by
  refine callsD_of_wpS Try.func56 rfl fun c₀ cs hu => ?_
  apply wpS_seq
  apply wpS_region
  simp [wpOpsS, go_sem, recoverD, hu, Try.ntmps56, Exit.thenS]
  refine wpS_of_wp ?_
  rw [show (#[Value.pointer (some p), .pointer (some q), .pointer (some r)] ++ ((Array.replicate 6 undef).setIfInBounds 1 Value.nilIface).setIfInBounds 0 Value.nilIface) = #[Value.pointer (some p), .pointer (some q), .pointer (some r), .nilIface, .nilIface, undef, undef, undef, undef] from rfl]
  go_wp2
  refine ⟨rfl, .returning, ?_, .tuple #[], by simp [results, Try.results56], rfl, rfl, rfl⟩
  cases c₀
  simp_all

/-- the world in which the rows are read -/
def readW (w : World) (s : Txt) : World := (((w.alloc (.cells #[.slice none 0 0] 22)).alloc (.cells #[.int .i64 0] 3)).alloc (.cells #[.int .i64 0] 28)).alloc (.cells #[.string (strT s), .int .i64 0, .slice none 0 0] 81)
theorem readW_below (w : World) (s : Txt) : Below w.heap.size w (readW w s) := bl_step (bl_step (bl_step (al' w _) (al' _ _)) (al' _ _)) (al' _ _)
theorem readW_rd (w : World) (s : Txt) : Rd (readW w s) (w.heap.size + 3) s s [] := by
  obtain ⟨h0, h1, h2, h3⟩ := four_blocks w (.cells #[.slice none 0 0] 22) (.cells #[.int .i64 0] 3) (.cells #[.int .i64 0] 28) (.cells #[.string (strT s), .int .i64 0, .slice none 0 0] 81)
  exact ⟨.slice none 0 0, ⟨[], rfl, h3⟩, World.ownsRow_nil _ _ _ _, fun c hc => by cases hc⟩

set_option maxRecDepth 20000 in
set_option maxHeartbeats 2000000 in
theorem readOk (s : Txt) (t : Rx) (w : World) (hs : s.length ≤ 200) (hr : rowsP s = some (t, [])) :
    Calls Try.prog 44 #[.string (strT s)] w fun e w' => ∃ v, e = .returned (.tuple #[v, .int .i64 0, .int .i64 0]) ∧ Cels w' v (post t) ∧ Below w.heap.size w w' := by
  have hmf : ∀ (fn : Fn) (first cap : Array Value) (w : World), (Instr.makeFunc fn first cap).run Try.prog w = .ok (.func fn first cap) w := fun _ _ _ _ => rfl
  have G := rowsC (M := 400) (readW_rd w s) hs (by simp; omega) (by omega)
  rw [hr] at G
  have G := hid G
  obtain ⟨h0, h1, h2, h3⟩ := four_blocks w (.cells #[.slice none 0 0] 22) (.cells #[.int .i64 0] 3) (.cells #[.int .i64 0] 28) (.cells #[.string (strT s), .int .i64 0, .slice none 0 0] 81)
  have hsz : (readW w s).heap.size = w.heap.size + 4 := by simp [readW]
  have hpl : plc s [] = (s.length : Int) := by simp [plc]
  have hS := strT_size s
  have HE : Hid (∀ w1, Red (some (t, [])) (readW w s) (w.heap.size + 3) s [] 400 (.returned (.tuple #[])) w1 → ∃ ad cap, (w1.cell? ⟨w.heap.size + 3, 1, none⟩ = some (.int .i64 (s.length : Int)) ∧ w1.cell? ⟨w.heap.size + 3, 2, none⟩ = some (.slice ad (post t).length cap) ∧ w1.heap[w.heap.size]? = some (.cells #[.slice none 0 0] 22 (0, 0)) ∧ w1.heap[w.heap.size + 1]? = some (.cells #[.int .i64 0] 3 (0, 0)) ∧ w1.heap[w.heap.size + 2]? = some (.cells #[.int .i64 0] 28 (0, 0))) ∧ (∀ c ∈ post t, FitC c) ∧ OwnC w1 (w.heap.size + 3) (.slice ad (post t).length cap) (post t) ∧ Below w.heap.size w w1) := hid (fun w1 hw => by
    obtain ⟨-, hrd, -, hb⟩ := hw.yes
    have hp := hrd.place
    rw [hpl] at hp
    obtain ⟨v, hat, ho, hf⟩ := hrd
    obtain ⟨k, hbk⟩ := hat.blk
    have hC := Cels.of_own (l := post t) ho hf
    obtain ⟨ad, cap, rfl⟩ : ∃ ad cap, v = .slice ad (post t).length cap := by obtain ⟨a, c, e, _⟩ := hC; exact ⟨a, c, e⟩
    refine ⟨ad, cap, ⟨hp, (rd3 hbk).2.2.1, (hb.block _ (by omega)).trans h0, (hb.block _ (by omega)).trans h1, (hb.block _ (by omega)).trans h2⟩, hf, ho, ?_⟩
    exact (readW_below w s).trans (hb.mono (by omega)))
  unfold readW at G HE
  generalize strT s = S at G HE hS
  clear h0 h1 h2 h3 hsz hpl hr
  go_enter_defers Try.func44, Try.ntmps44
  go_wp2_with (go_at_call 57; refine G.out.mono ?_; intro e w1 hw1; obtain ⟨he1, -, -, -⟩ := hw1.yes; subst he1; obtain ⟨ad, cap, ⟨c1, c2, k0, k1, k2⟩, hC, hO, hb⟩ := HE.out w1 hw1; have hC := hid hC; have hO := hid hO; have d0 := blk_cell (o := 0) (v := .slice none 0 0) k0 rfl; have d1 := blk_cell (o := 0) (v := .int .i64 0) k1 rfl; have d2 := blk_cell (o := 0) (v := .int .i64 0) k2 rfl; have f0 := blk_frozen k0 0; have f1 := blk_frozen k1 0; have f2 := blk_frozen k2 0; clear k0 k1 k2)
  refine leaves_cons (f := 56) (args := #[.pointer (some ⟨w.heap.size, 0, none⟩), .pointer (some ⟨w.heap.size + 1, 0, none⟩), .pointer (some ⟨w.heap.size + 2, 0, none⟩)]) (by simp) (by simp [go_sem]) ?_
  refine (catch_idle _ _ _ _).mono ?_
  rintro e u' w'' ⟨rfl, rfl, rfl⟩
  have hO' : OwnC (((w1.setCell ⟨w.heap.size, 0, none⟩ (.slice ad (post t).length cap)).setCell ⟨w.heap.size + 1, 0, none⟩ (.int .i64 0)).setCell ⟨w.heap.size + 2, 0, none⟩ (.int .i64 0)) (w.heap.size + 3) (.slice ad (post t).length cap) (post t) := own_keep hO.out fun k hk => by
    have := (hO.out.lt k hk).1
    rw [Below.heap_setCell _ _ _ _ (by simp; omega), Below.heap_setCell _ _ _ _ (by simp; omega), Below.heap_setCell _ _ _ _ (by simp; omega)]
  refine ⟨.tuple #[.slice ad (post t).length cap, .int .i64 0, .int .i64 0], by simp [results, Try.results44, go_sem, d0, d1, d2], _, rfl, Cels.of_own (l := post t) hO' hC.out, ?_⟩
  exact bl_set (bl_set (bl_set hb _ 0 _ (Nat.le_refl _)) _ 0 _ (by omega)) _ 0 _ (by omega)

set_option maxRecDepth 20000 in
set_option maxHeartbeats 2000000 in
theorem readBad (s : Txt) (w : World) (hs : s.length ≤ 200) (hr : ∀ t, rowsP s ≠ some (t, [])) :
    Calls Try.prog 44 #[.string (strT s)] w fun e w' => ∃ n, e = .returned (.tuple #[.slice none 0 0, .int .i64 n, .int .i64 1]) ∧ (s = [40, 97] → n = 2) ∧ Below w.heap.size w w' := by
  have hmf : ∀ (fn : Fn) (first cap : Array Value) (w : World), (Instr.makeFunc fn first cap).run Try.prog w = .ok (.func fn first cap) w := fun _ _ _ _ => rfl
  have G := rowsC (M := 400) (readW_rd w s) hs (by simp; omega) (by omega)
  obtain ⟨h0, h1, h2, h3⟩ := four_blocks w (.cells #[.slice none 0 0] 22) (.cells #[.int .i64 0] 3) (.cells #[.int .i64 0] 28) (.cells #[.string (strT s), .int .i64 0, .slice none 0 0] 81)
  have hsz : (readW w s).heap.size = w.heap.size + 4 := by simp [readW]
  have HB : Hid (∀ w1, Below (w.heap.size + 3) (readW w s) w1 → (w1.heap[w.heap.size]? = some (.cells #[.slice none 0 0] 22 (0, 0)) ∧ w1.heap[w.heap.size + 1]? = some (.cells #[.int .i64 0] 3 (0, 0)) ∧ w1.heap[w.heap.size + 2]? = some (.cells #[.int .i64 0] 28 (0, 0))) ∧ Below w.heap.size w w1) := hid (fun w1 hb => ⟨⟨(hb.block _ (by omega)).trans h0, (hb.block _ (by omega)).trans h1, (hb.block _ (by omega)).trans h2⟩, (readW_below w s).trans (hb.mono (by omega))⟩)
  have hS := strT_size s
  cases e1 : rowsP s with
  | none =>
    rw [e1] at G
    have G' := hid G
    unfold readW at G' HB
    generalize strT s = S at G' HB hS
    clear h0 h1 h2 h3 hsz hr e1 G
    go_enter_defers Try.func44, Try.ntmps44
    go_wp2_with (go_at_call 57; refine G'.out.mono ?_; intro e w1 hw1; obtain ⟨⟨n1, he1, hn1⟩, hb1⟩ := hw1.no; subst he1; obtain ⟨⟨k0, k1, k2⟩, hb⟩ := HB.out w1 hb1; have k0 := hid k0; have k1 := hid k1; have k2 := hid k2)
    refine leaves_cons (f := 56) (args := #[.pointer (some ⟨w.heap.size, 0, none⟩), .pointer (some ⟨w.heap.size + 1, 0, none⟩), .pointer (some ⟨w.heap.size + 2, 0, none⟩)]) (by simp) (by simp [go_sem]) ?_
    refine (catch_fault w.heap.size n1 _ _ _ _ k0.out k1.out k2.out).mono ?_
    rintro e u' w'' ⟨rfl, rfl, ⟨q0, q1, q2⟩, hbw⟩
    exact ⟨.tuple #[.slice none 0 0, .int .i64 n1, .int .i64 1], by simp [results, Try.results44, go_sem, q0, q1, q2], n1, rfl, hn1, hb.trans hbw⟩
  | some x =>
    obtain ⟨t, q⟩ := x
    rw [e1] at G
    have hq : q ≠ [] := fun e => hr t (by rw [e1, e])
    have hqp : 0 < q.length := List.length_pos_iff.2 hq
    have hn2 : s = [40, 97] → False := fun he => by subst he; cases e1
    have hlt : plc s q < (s.length : Int) := by unfold plc; omega
    have HP := hid (fun w1 (h : Rd w1 (w.heap.size + 3) s q ([] ++ post t)) => h.place)
    generalize plc s q = p at hlt HP
    have G' := hid G
    unfold readW at G' HB
    generalize strT s = S at G' HB hS
    clear h0 h1 h2 h3 hsz hr e1 G hq hqp
    go_enter_defers Try.func44, Try.ntmps44
    go_wp2_with (go_at_call 57; refine G'.out.mono ?_; intro e w1 hw1; obtain ⟨he1, hrd1, -, hb1⟩ := hw1.yes; subst he1; have c1 := HP.out w1 hrd1; obtain ⟨⟨k0, k1, k2⟩, hb⟩ := HB.out w1 hb1; have k0 := hid k0; have k1 := hid k1; have k2 := hid k2)
    refine leaves_cons (f := 56) (args := #[.pointer (some ⟨w.heap.size, 0, none⟩), .pointer (some ⟨w.heap.size + 1, 0, none⟩), .pointer (some ⟨w.heap.size + 2, 0, none⟩)]) (by simp) (by simp [go_sem]) ?_
    refine (catch_fault w.heap.size p _ _ _ _ k0.out k1.out k2.out).mono ?_
    rintro e u' w'' ⟨rfl, rfl, ⟨q0, q1, q2⟩, hbw⟩
    exact ⟨.tuple #[.slice none 0 0, .int .i64 p, .int .i64 1], by simp [results, Try.results44, go_sem, q0, q1, q2], p, rfl, fun he => (hn2 he).elim, hb.trans hbw⟩

end Go.Proofs.Ytgbecehggdkkmaa
namespace Go.Proofs.Ytgbecehggdkkmaa
open Go.RowKit

set_option maxRecDepth 20000 in
theorem parseLong (s : Txt) (w : World) (hs : 200 < s.length) : Calls Try.prog 23 #[.string (strT s)] w fun e w' => ∃ a c, e = .returned (.tuple #[.slice a 0 c, .int .i64 0, .int .i64 3]) ∧ Below w.heap.size w w' := by
  have hS := strT_size s
  have hz : (200 : Int) < ((strT s).size : Int) := by omega
  generalize strT s = S at hS hz
  clear hS hs
  go_enter Try.func23, Try.ntmps23
  go_wp2
  refine bodyPost_ret (v := .tuple #[.slice none 0 0, .int .i64 0, .int .i64 3]) (by simp [results, Try.results23, go_sem]) rfl ⟨none, 0, rfl, Below.refl _ _⟩

set_option maxRecDepth 20000 in
theorem parseBad (s : Txt) (w : World) (hs : s.length ≤ 200) (hr : ∀ t, rowsP s ≠ some (t, [])) : Calls Try.prog 23 #[.string (strT s)] w fun e w' => ∃ a c n, e = .returned (.tuple #[.slice a 0 c, .int .i64 n, .int .i64 1]) ∧ (s = [40, 97] → n = 2) ∧ Below w.heap.size w w' := by
  have G := hid (readBad s w hs hr)
  have hS := strT_size s
  have hz : ¬ (200 : Int) < ((strT s).size : Int) := by omega
  have hzz : (strT s).size ≤ 200 := by omega
  generalize strT s = S at hS hz G hzz
  clear hr hS
  go_enter Try.func23, Try.ntmps23
  go_wp2_with (go_at_call 44; refine G.out.mono ?_; rintro e w1 ⟨n, rfl, hn, hb⟩)
  refine bodyPost_ret (v := .tuple #[.slice none 0 0, .int .i64 n, .int .i64 1]) (by simp [results, Try.results23, go_sem]) rfl ⟨none, 0, n, rfl, hn, hb⟩

set_option maxRecDepth 20000 in
theorem parseFull (s : Txt) (t : Rx) (w : World) (hs : s.length ≤ 200) (hr : rowsP s = some (t, [])) (hl : 60 < (post t).length) : Calls Try.prog 23 #[.string (strT s)] w fun e w' => ∃ a c, e = .returned (.tuple #[.slice a 0 c, .int .i64 0, .int .i64 3]) ∧ Below w.heap.size w w' := by
  have G0 := readOk s t w hs hr
  have hS := strT_size s
  have hz : ¬ (200 : Int) < ((strT s).size : Int) := by omega
  have hzz : (strT s).size ≤ 200 := by omega
  have G : Hid (Calls Try.prog 44 #[.string (strT s)] w fun e w' => ∃ a c, e = .returned (.tuple #[.slice a (post t).length c, .int .i64 0, .int .i64 0]) ∧ Below w.heap.size w w') := hid (G0.mono fun e w' ⟨v, he, hc, hb⟩ => by
    obtain ⟨a, c, hv, _⟩ := hc
    subst hv
    exact ⟨a, c, he, hb⟩)
  generalize strT s = S at hS hz G hzz
  have hlz : (60 : Int) < ((post t).length : Int) := by omega
  generalize (post t).length = L at G hlz
  clear hr hS G0 hl
  go_enter Try.func23, Try.ntmps23
  go_wp2_with (go_at_call 44; refine G.out.mono ?_; rintro e w1 ⟨a, c, rfl, hb⟩)
  refine bodyPost_ret (v := .tuple #[.slice none 0 0, .int .i64 0, .int .i64 3]) (by simp [results, Try.results23, go_sem]) rfl ⟨none, 0, rfl, hb⟩

set_option maxRecDepth 20000 in
theorem parseGood (s : Txt) (t : Rx) (w : World) (hs : s.length ≤ 200) (hr : rowsP s = some (t, [])) (hl : (post t).length ≤ 60) : Calls Try.prog 23 #[.string (strT s)] w fun e w' => ∃ v, e = .returned (.tuple #[v, .int .i64 0, .int .i64 0]) ∧ Cels w' v (post t) ∧ Below w.heap.size w w' := by
  have G0 := readOk s t w hs hr
  have hS := strT_size s
  have hz : ¬ (200 : Int) < ((strT s).size : Int) := by omega
  have hzz : (strT s).size ≤ 200 := by omega
  have G : Hid (Calls Try.prog 44 #[.string (strT s)] w fun e w' => ∃ a c, e = .returned (.tuple #[.slice a (post t).length c, .int .i64 0, .int .i64 0]) ∧ Hid (Cels w' (.slice a (post t).length c) (post t)) ∧ Below w.heap.size w w') := hid (G0.mono fun e w' ⟨v, he, hc, hb⟩ => by
    have hc' := hc
    obtain ⟨a, c, hv, _⟩ := hc
    subst hv
    exact ⟨a, c, he, hid hc', hb⟩)
  generalize strT s = S at hS hz G hzz
  have hlz : ¬ (60 : Int) < ((post t).length : Int) := by omega
  clear hr hS G0
  go_enter Try.func23, Try.ntmps23
  go_wp2_with (go_at_call 44; refine G.out.mono ?_; rintro e w1 ⟨a, c, rfl, hC, hb⟩)
  refine bodyPost_ret (v := .tuple #[.slice a (post t).length c, .int .i64 0, .int .i64 0]) (by simp [results, Try.results23, go_sem]) rfl ⟨_, rfl, hC.out, hb⟩
set_option maxRecDepth 20000 in
theorem parseWake (w : World) : Calls Try.prog 23 #[.string ⟨#[40, 97]⟩] w fun e w' => ∃ a c, e = .returned (.tuple #[.slice a 0 c, .int .i64 2, .int .i64 1]) ∧ Below w.heap.size w w' := by
  have h : rowsP [40, 97] = none := rfl
  refine (parseBad [40, 97] w (by decide) (fun t e => by rw [h] at e; cases e)).mono ?_
  rintro e w' ⟨a, c, n, he, hn, hb⟩
  have := hn rfl
  subst this
  exact ⟨a, c, he, hb⟩

end Go.Proofs.Ytgbecehggdkkmaa
