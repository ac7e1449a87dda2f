/- The reference: a production's text. The reference: Same. The reference: are rules alike? The reference: levels inside. -/
import Derived.Test.YtloaikjealcbmaaGreatK15
import Derived.Test.YtloaikjealcbmaaGreatK14
import Derived.Test.YtloaikjealcbmaaGreatK4
import Derived.Lib.QuietBelow
import Derived.Deep.RegionHeld3
namespace Go.Proofs.YtloaikjealcbmaaGreat
open Go.RowKit Go.Maps Go.Sort

/-- a production's text, the right side's first k symbols -/
def ptxK (g : Gm) (p : Pd) (k : Nat) : Txt := g.name p.left ++ [58] ++ (p.right.take k).flatMap fun n => 32 :: g.name n
def ptxt (g : Gm) (p : Pd) : Txt := ptxK g p p.right.length ++ [32, 37, 32] ++ g.name p.prec
theorem ptxK_succ {g : Gm} {p : Pd} {k : Nat} (hk : k < p.right.length) : ptxK g p (k + 1) = ptxK g p k ++ (32 :: g.name p.right[k]) := by
 unfold ptxK
 rw [List.take_add_one, List.getElem?_eq_getElem hk, Option.toList_some, List.flatMap_append, ← List.append_assoc]
 congr 1
 simp
/-- names are short -/
def Nm100 (g : Gm) : Prop := ∀ n : Int, (g.name n).length ≤ 100
theorem ptxK_len {g : Gm} (h : Nm100 g) (p : Pd) : ∀ k, (ptxK g p k).length ≤ 101 + 101 * k
 | 0 => by
  unfold ptxK
  have := h p.left
  simp
  omega
 | k + 1 => by
  have ih := ptxK_len h p k
  by_cases hk : k < p.right.length
  · rw [ptxK_succ hk, List.length_append, List.length_cons]
    have := h p.right[k]
    omega
  · have : ptxK g p (k + 1) = ptxK g p k := by
     unfold ptxK
     rw [List.take_of_length_le (by omega : p.right.length ≤ k + 1), List.take_of_length_le (by omega : p.right.length ≤ k)]
    rw [this]
    omega
theorem ptxt_len {g : Gm} (h : Nm100 g) (p : Pd) (hr : p.right.length ≤ 30) : (ptxt g p).length ≤ 4000 := by
 have h1 := ptxK_len h p p.right.length
 have h2 := h p.prec
 unfold ptxt
 rw [List.length_append, List.length_append]
 simp
 omega
set_option maxRecDepth 20000 in
set_option maxHeartbeats 16000000 in
theorem refTextC (rv nv lv pv : Value) (g : Gm) (k : Nat) (w : World) (hV : GmV w rv nv lv pv g) (hk : k < g.prods.length) (hl : g.rules.length ≤ 1000) (hl2 : g.nonts.length ≤ 1000) (_hl3 : g.prods.length ≤ 1000) (hN : Nm100 g) (hr : g.prods[k].right.length ≤ 30) :
 Calls Tryz.prog 16 #[gmA rv nv lv pv g.start, .int .i64 (k : Int)] w fun e w' => e = .returned (.string (strT (ptxt g g.prods[k]))) ∧ Below w.heap.size w w' := by
 obtain ⟨pa, pc, rfl⟩ := hV.prods.shape
 have hB1 := al' w (.cells #[rv, nv, lv, .slice pa g.prods.length pc, .int .i64 g.start] 27)
 have k1 := heap_new w (.cells #[rv, nv, lv, .slice pa g.prods.length pc, .int .i64 g.start] 27)
 obtain ⟨W, hW⟩ : ∃ x, w.alloc (.cells #[rv, nv, lv, .slice pa g.prods.length pc, .int .i64 g.start] 27) = x := ⟨_, rfl⟩
 rw [hW] at hB1 k1
 have hB := hid hB1
 have hk1 := hid (fun u (hu : Below W.heap.size W u) => cells5m (hs_keep k1 hu))
 obtain ⟨b, o, q1, q3, e, hp9⟩ : ∃ b o q1 q3, pa = some ⟨b, o, none⟩ ∧ ∀ u, Below W.heap.size W u → u.cell? ⟨b, o + k * 3, none⟩ = some (.int .i64 g.prods[k].left) ∧ u.cell? ⟨b, o + k * 3 + 1, none⟩ = some (.slice q1 g.prods[k].right.length q3) ∧ u.cell? ⟨b, o + k * 3 + 2, none⟩ = some (.int .i64 g.prods[k].prec) ∧ ∀ j (hj : j < g.prods[k].right.length), ∃ b' o', q1 = some ⟨b', o', none⟩ ∧ u.cell? ⟨b', o' + j, none⟩ = some (.int .i64 g.prods[k].right[j]) := by
  obtain ⟨b, o, e, -, v, h0, h1, h2, hN⟩ := hV.prods.at hk
  obtain ⟨q1, q3, rfl, -⟩ := id hN
  refine ⟨b, o, q1, q3, e, fun u hu => ?_⟩
  have hu0 := bl_step hB1 hu
  refine ⟨keep_cell hu0 h0, keep_cell hu0 h1, keep_cell hu0 h2, fun j hj => ?_⟩
  obtain ⟨b', o', cap, e', _, _, hc⟩ := (hN.keep hu0).at (by omega)
  injection e' with e1 _ _
  exact ⟨b', o', e1, hc j hj⟩
 subst e
 have hp := hid hp9
 have GN := hid (fun (j : Int) (u : World) (hu : Below W.heap.size W u) => refNameC rv nv lv _ g j u (hV.keep (bl_step hB1 hu)) (by omega) (by omega))
 have hK0 : Hid (ptxK g g.prods[k] 0 = g.name g.prods[k].left ++ [58]) := hid (by unfold ptxK; simp)
 have hKs := hid (fun j (hj : j < g.prods[k].right.length) => ptxK_succ (g := g) (p := g.prods[k]) hj)
 have hKe : Hid (ptxt g g.prods[k] = ptxK g g.prods[k] g.prods[k].right.length ++ [32, 37, 32] ++ g.name g.prods[k].prec) := hid rfl
 have hKl := hid (fun j => ptxK_len hN g.prods[k] j)
 have hNl := hid hN
 generalize ptxt g g.prods[k] = R at *
 generalize ptxK g g.prods[k] = F at *
 generalize g.prods[k] = pd at *
 obtain ⟨rl, hrl⟩ : ∃ n, Hid (pd.right.length = n) := ⟨_, hid rfl⟩
 rw [hrl.out] at hr hKe
 clear hV hB1 k1 hN hp9
 generalize g.prods.length = pn at *
 generalize g.start = st at *
 obtain ⟨y0, y1, y2, y3, y4⟩ := hk1.out W (Below.refl _ _)
 obtain ⟨d0, d1, d2, -⟩ := hp.out W (Below.refl _ _)
 rw [hrl.out] at d1
 have hkz : ¬ (k : Int) < 0 := by omega
 have hkz2 : ¬ (pn : Int) ≤ (k : Int) := by omega
 have cA : Hid (∀ d os, Calls Tryz.prog 32 #[gmA rv nv lv (.slice (some ⟨b, o, none⟩) pn pc) st, .int .i64 pd.left] (grow (redrawn W d) os) fun e w'' => e = .returned (.string (strT (g.name pd.left))) ∧ ∃ p : Regrown, w'' = grow (redrawn W p.d) p.os) := hid (fun d os => Calls.regrown_of (GN.out pd.left _ (below_regrown W d os)))
 have e0 := cell_regrown y0
 have e1 := cell_regrown y1
 have e2 := cell_regrown y2
 have e3 := cell_regrown y3
 have e4 := cell_regrown y4
 have f0 := cell_regrown d0
 have s0 : (strT (g.name pd.left)).size ≤ 100 := by rw [strT_size]; exact hNl.out _
 have hcat := fun u => run_cat (strT (g.name pd.left)) ⟨#[58]⟩ u (by have : (⟨#[58]⟩ : ByteArray).size = 1 := rfl; omega)
 have hF0 : Hid (strT (g.name pd.left) ++ ⟨#[58]⟩ = strT (F 0)) := hid (by rw [hK0.out, ← strT_app]; rfl)
 go_enter Tryz.func16, Tryz.ntmps16
 go_wp2_with fail
 clear hW y0 y1 y2 y3 y4 d0 d1 d2
 refine wp_region_quiet_below (by kernel_rfl) (by kernel_rfl) ?_
 repeat (first | go_big_quiet_step (exact cA.out _ _) | quiet_step (exact cA.out _ _))
 refine wpQuiet_nil ?_
 intro _ hw'
 obtain ⟨⟨dq, osq⟩, hw''⟩ := hw'
 subst hw''
 have hq := hid (below_regrown W dq osq)
 generalize grow (redrawn W dq) osq = wz at *
 clear e0 e1 e2 e3 e4 f0 cA hcat s0
 rw [hF0.out]
 go_wp2
 go_loopw [5, 6] (fun s i wr => ∃ j : Nat, j ≤ rl ∧ i = .int .i64 (j : Int) ∧ s = .string (strT (F j)) ∧ Hid (Below W.heap.size W wr)) (fun _ i _ => rl - (intOf i).toNat)
 case atStart => exact ⟨0, Nat.zero_le _, rfl, rfl, hq⟩
 case round =>
  obtain ⟨j, hj, rfl, rfl, hbl⟩ := hrel
  obtain ⟨y0, y1, y2, y3, y4⟩ := hk1.out wr hbl.out
  obtain ⟨d0, d1, d2, dr⟩ := hp.out wr hbl.out
  rw [hrl.out] at d1
  have e0 := cell_regrown y0
  have e1 := cell_regrown y1
  have e2 := cell_regrown y2
  have e3 := cell_regrown y3
  have e4 := cell_regrown y4
  have hFl : (strT (F j)).size ≤ 10000 := by rw [strT_size]; have := hKl.out j; omega
  by_cases hlt : j < rl
  · have hltz : (j : Int) < (rl : Int) := by omega
    have hjl : j < pd.right.length := by rw [hrl.out]; exact hlt
    obtain ⟨b', o', rfl, c0⟩ := dr j hjl
    have f0 := cell_regrown d1
    have f1 := cell_regrown c0
    have cA : Hid (∀ d os, Calls Tryz.prog 32 #[gmA rv nv lv (.slice (some ⟨b, o, none⟩) pn pc) st, .int .i64 pd.right[j]] (grow (redrawn wr d) os) fun e w'' => e = .returned (.string (strT (g.name pd.right[j]))) ∧ ∃ p : Regrown, w'' = grow (redrawn wr p.d) p.os) := hid (fun d os => Calls.regrown_of (GN.out pd.right[j] _ (bl_step hbl.out (below_regrown wr d os))))
    have hF9 : Hid (strT (F j) ++ (⟨#[32]⟩ ++ strT (g.name pd.right[j])) = strT (F (j + 1))) := hid (by rw [hKs.out j hjl, show (32 :: g.name pd.right[j]) = [32] ++ g.name pd.right[j] from rfl, ← strT_app, ← strT_app]; rfl)
    have s0 : (strT (g.name pd.right[j])).size ≤ 100 := by rw [strT_size]; exact hNl.out _
    clear dr
    generalize strT (g.name pd.right[j]) = N9 at *
    generalize pd.right[j] = x9 at *
    generalize strT (F j) = S9 at *
    have hc1 := fun u => run_cat ⟨#[32]⟩ N9 u (by have : (⟨#[32]⟩ : ByteArray).size = 1 := rfl; omega)
    have hc2 := fun u => run_cat S9 (⟨#[32]⟩ ++ N9) u (by rw [ByteArray.size_append]; have : (⟨#[32]⟩ : ByteArray).size = 1 := rfl; omega)
    clear c0 d0 d2 y0 y1 y2 y4
    go_wp2_with fail
    clear d1 y3
    refine wp_region_quiet_below (by kernel_rfl) (by kernel_rfl) ?_
    repeat (first | go_big_quiet_step (exact cA.out _ _) | quiet_step (exact cA.out _ _))
    refine wpQuiet_nil ?_
    intro _ hw'
    obtain ⟨⟨dq, osq⟩, hw''⟩ := hw'
    subst hw''
    have hq2 := hid (bl_step hbl.out (below_regrown wr dq osq))
    generalize grow (redrawn wr dq) osq = wy at *
    rw [hF9.out]
    go_wp2
    go_roundw
    case rel => exact ⟨j + 1, by omega, by go_num, rfl, hq2⟩
    case measure => simp [intOf]; omega
  · have hltz : ¬ (j : Int) < (rl : Int) := by omega
    obtain rfl : j = rl := by omega
    have f0 := cell_regrown d2
    have cA : Hid (∀ d os, Calls Tryz.prog 32 #[gmA rv nv lv (.slice (some ⟨b, o, none⟩) pn pc) st, .int .i64 pd.prec] (grow (redrawn wr d) os) fun e w'' => e = .returned (.string (strT (g.name pd.prec))) ∧ ∃ p : Regrown, w'' = grow (redrawn wr p.d) p.os) := hid (fun d os => Calls.regrown_of (GN.out pd.prec _ (bl_step hbl.out (below_regrown wr d os))))
    have hF9 : Hid ((strT (F j) ++ ⟨#[32, 37, 32]⟩) ++ strT (g.name pd.prec) = strT R) := hid (by rw [hKe.out, ← strT_app, ← strT_app]; rfl)
    have s0 : (strT (g.name pd.prec)).size ≤ 100 := by rw [strT_size]; exact hNl.out _
    clear dr
    generalize strT (g.name pd.prec) = N9 at *
    generalize pd.prec = x9 at *
    generalize strT (F j) = S9 at *
    have hc1 := fun u => run_cat S9 ⟨#[32, 37, 32]⟩ u (by have : (⟨#[32, 37, 32]⟩ : ByteArray).size = 3 := rfl; omega)
    have hc2 := fun u => run_cat (S9 ++ ⟨#[32, 37, 32]⟩) N9 u (by rw [ByteArray.size_append]; have : (⟨#[32, 37, 32]⟩ : ByteArray).size = 3 := rfl; omega)
    clear d0 d2 y0 y1 y2 y4
    go_wp2_with fail
    clear d1 y3
    refine wp_region_quiet_below (by kernel_rfl) (by kernel_rfl) ?_
    repeat (first | go_big_quiet_step (exact cA.out _ _) | quiet_step (exact cA.out _ _))
    refine wpQuiet_nil ?_
    intro _ hw'
    obtain ⟨⟨dq, osq⟩, hw''⟩ := hw'
    subst hw''
    have hq2 := hid (bl_step hbl.out (below_regrown wr dq osq))
    generalize grow (redrawn wr dq) osq = wy at *
    rw [hF9.out]
    go_wp2
    go_ret
    exact ⟨rfl, bl_step hB.out hq2.out⟩

end Go.Proofs.YtloaikjealcbmaaGreat
namespace Go.Proofs.YtloaikjealcbmaaGreat
open Go.RowKit

set_option maxRecDepth 20000 in
set_option maxRecDepth 20000 in
theorem Tryz.fields94 : (Tryz.prog.fieldsOf 94).toList.map (fun f => (f.name, f.type, f.offset)) = [("Op", 3, 0), ("Set", 92, 1)] := by kernel_rfl
set_option maxRecDepth 20000 in
theorem fields_two : ∃ f g, (Tryz.prog.fieldsOf 94).toList = [f, g] ∧ f.name = "Op" ∧ f.type = 3 ∧ f.offset = 0 ∧ g.name = "Set" ∧ g.type = 92 ∧ g.offset = 1 := by
 have h := Tryz.fields94
 generalize (Tryz.prog.fieldsOf 94).toList = L at h ⊢
 match L, h with
 | [], h => simp at h
 | [_], h => simp at h
 | _ :: _ :: _ :: _, h => simp at h
 | [f, g], h =>
  simp only [List.map_cons, List.map_nil, List.cons.injEq, Prod.mk.injEq, and_true] at h
  exact ⟨f, g, rfl, h.1.1, h.1.2.1, h.1.2.2, h.2.1, h.2.2.1, h.2.2.2⟩
theorem cel_eq (o o' : Int) (S S' : W4) : decide ((⟨o, S⟩ : Cel) = ⟨o', S'⟩) = ((o == o') && decide (S = S')) := by
 rw [Bool.eq_iff_iff]
 simp
set_option maxRecDepth 20000 in
theorem equal5 (d : Nat) (o o' : Int) (a b c e a' b' c' e' : Nat) (w : World) :
 (Op.equalIn (d + 3) 94 (.agg #[.int .i64 o, .int .u64 (a : Int), .int .u64 (b : Int), .int .u64 (c : Int), .int .u64 (e : Int)]) (.agg #[.int .i64 o', .int .u64 (a' : Int), .int .u64 (b' : Int), .int .u64 (c' : Int), .int .u64 (e' : Int)])).run Tryz.prog w = .ok (decide ((⟨o, ⟨a, b, c, e⟩⟩ : Cel) = ⟨o', ⟨a', b', c', e'⟩⟩)) w := by
 obtain ⟨f, g, hf, f1, f2, f3, g1, g2, g3⟩ := fields_two
 have p0 : ∀ x0 x1 x2 x3 x4 : Value, (part 3 #[x0, x1, x2, x3, x4] 0).run Tryz.prog w = .ok x0 w := fun _ _ _ _ _ => by simp [part, isAgg, run_underlying Tryz.underlying3]
 have p1 : ∀ x0 x1 x2 x3 x4 : Value, (part 92 #[x0, x1, x2, x3, x4] 1).run Tryz.prog w = .ok (.agg #[x1, x2, x3, x4]) w := fun _ _ _ _ _ => by simp [part, Tryz.isAgg92, Tryz.sizeOf92]
 have ht : Tryz.prog.underlying 94 = some (.struct (Tryz.prog.fieldsOf 94)) := by unfold Program.fieldsOf; rw [Tryz.underlying94]
 rw [run_equalIn_struct w (d + 2) 94 _ _ ht (by kernel_rfl), hf, cel_eq]
 have n1 : ("Op" : String) ≠ "_" := by decide
 have n2 : ("Set" : String) ≠ "_" := by decide
 simp only [Op.eqFields, f1, f2, f3, g1, g2, g3, if_pos n1, if_pos n2, Sem.run_bind, p0, Result.andThen_ok]
 rw [run_equalIn_int w (d + 1) 3 .i64 .i64 _ _ Tryz.underlying3]
 simp only [Result.andThen_ok]
 cases h1 : (o == o') with
 | false => simp
 | true =>
  have h4 := equal4 d a b c e a' b' c' e' w
  simp only [valB] at h4
  simp [p1, h4]
  cases hd : decide ((⟨a, b, c, e⟩ : W4) = ⟨a', b', c', e'⟩) <;> simp_all

set_option maxRecDepth 20000 in
set_option maxHeartbeats 2000000 in
theorem sameQ (v v' : Value) (l m : List Cel) (w : World) (hl : l.length ≤ 1000000) (hA : Cels w v l) (hB : Cels w v' m) : Calls Tryz.prog 23 #[v, v'] w fun e w' => e = .returned (.bool (decide (l = m))) ∧ Below w.heap.size w w' := by
 obtain ⟨av, cv, rfl, _, _, _, hAt⟩ := hA
 obtain ⟨bv, dv, rfl, _, _, _, hBt⟩ := hB
 have hAt := hid hAt
 have hBt := hid hBt
 by_cases hlen : l.length = m.length
 · have hlz : ((l.length : Int) == (m.length : Int)) = true := beq_iff_eq.2 (by omega)
   have hend : Hid ((∀ j (h : j < l.length) (h' : j < m.length), l[j] = m[j]) → decide (l = m) = true) := hid (fun h => decide_eq_true (List.ext_getElem hlen h))
   have hno : Hid (∀ j (h : j < l.length) (h' : j < m.length), l[j] ≠ m[j] → decide (l = m) = false) := hid (fun j h h' hne => decide_eq_false (fun e => hne (by subst e; rfl)))
   generalize decide (l = m) = R at hend hno ⊢
   rw [← hlen] at hlz ⊢
   have hlen' := hid hlen
   clear hlen
   go_enter Tryz.func23, Tryz.ntmps23
   go_wp2
   go_loopw [5] (fun i wr => ∃ k : Nat, k ≤ l.length ∧ i = .int .i64 k ∧ Hid (∀ j (h : j < l.length) (h' : j < m.length), j < k → l[j] = m[j]) ∧ Below w.heap.size w wr) (fun i _ => l.length - (intOf i).toNat)
   case atStart => exact ⟨0, Nat.zero_le _, rfl, hid (fun j _ _ h => absurd h (Nat.not_lt_zero _)), Below.refl _ _⟩
   case round =>
    obtain ⟨k, hk, rfl, hlow, hbl⟩ := hrel
    by_cases hlt : k < l.length
    · have hltz : (k : Int) < (l.length : Int) := by omega
      obtain ⟨b1, o1, rfl, _, h5⟩ := hAt.out k hlt
      obtain ⟨b2, o2, rfl, _, h6⟩ := hBt.out k (by have := hlen'.out; omega)
      have h5 := h5.keep (bl_step hbl (Below.refl _ _).drew)
      have h6 := h6.keep (bl_step hbl (Below.refl _ _).drew)
      have hno1 := hid (hno.out k hlt (by have := hlen'.out; omega))
      have hkm : k < m.length := by have := hlen'.out; omega
      have hyes : Hid (l[k] = m[k] → ∀ j (h : j < l.length) (h' : j < m.length), j < k + 1 → l[j] = m[j]) := hid (fun e j h h' hj => by
       by_cases e' : j = k
       · subst e'; exact e
       · exact hlow.out j h h' (by omega))
      generalize l[k] = c at h5 hno1 hyes
      generalize m[k] = c' at h6 hno1 hyes
      obtain ⟨op, a1, a2, a3, a4⟩ := c
      obtain ⟨op', a1', a2', a3', a4'⟩ := c'
      obtain ⟨d0, d1, d2, d3, d4⟩ := h5
      obtain ⟨e0, e1, e2, e3, e4⟩ := h6
      simp only at d0 d1 d2 d3 d4 e0 e1 e2 e3 e4
      have hgt := Tryz.eqGuardType94
      cases hc : decide ((⟨op, ⟨a1, a2, a3, a4⟩⟩ : Cel) = ⟨op', ⟨a1', a2', a3', a4'⟩⟩) with
      | true =>
       have he : ∀ u, (Op.equalIn 10000 94 (.agg #[.int .i64 op, .int .u64 (a1 : Int), .int .u64 (a2 : Int), .int .u64 (a3 : Int), .int .u64 (a4 : Int)]) (.agg #[.int .i64 op', .int .u64 (a1' : Int), .int .u64 (a2' : Int), .int .u64 (a3' : Int), .int .u64 (a4' : Int)])).run Tryz.prog u = .ok true u := fun u => (equal5 9997 op op' a1 a2 a3 a4 a1' a2' a3' a4' u).trans (by rw [hc])
       have hy := hid (hyes.out (of_decide_eq_true hc))
       clear hc hno1 hyes
       go_wp2_with fail
       go_region_with (fail)
       all_goals
        go_wp2
        exact ⟨⟨k + 1, by omega, by go_num, hy, bl_step hbl (Below.refl _ _).drew⟩, by simp [intOf]; omega⟩
      | false =>
       have he : ∀ u, (Op.equalIn 10000 94 (.agg #[.int .i64 op, .int .u64 (a1 : Int), .int .u64 (a2 : Int), .int .u64 (a3 : Int), .int .u64 (a4 : Int)]) (.agg #[.int .i64 op', .int .u64 (a1' : Int), .int .u64 (a2' : Int), .int .u64 (a3' : Int), .int .u64 (a4' : Int)])).run Tryz.prog u = .ok false u := fun u => (equal5 9997 op op' a1 a2 a3 a4 a1' a2' a3' a4' u).trans (by rw [hc])
       have hR : R = false := hno1.out (of_decide_eq_false hc)
       clear hc hno1 hyes
       subst hR
       go_wp2_with fail
       go_region_with (fail)
       all_goals
        go_wp2
        go_ret
        exact ⟨rfl, bl_step hbl (Below.refl _ _).drew⟩
    · have hltz : ¬ (k : Int) < (l.length : Int) := by omega
      have hR : R = true := hend.out (fun j h h' => hlow.out j h h' (by omega))
      subst hR
      go_wp2
      go_ret
      exact ⟨rfl, hbl⟩
 · have hlz : ((l.length : Int) == (m.length : Int)) = false := beq_eq_false_iff_ne.2 (by omega)
   have e : decide (l = m) = false := decide_eq_false (fun e => hlen (by rw [e]))
   rw [e]
   go_enter Tryz.func23, Tryz.ntmps23
   go_wp2
   go_ret
   exact ⟨rfl, Below.refl _ _⟩

end Go.Proofs.YtloaikjealcbmaaGreat
namespace Go.Proofs.YtloaikjealcbmaaGreat
open Go.RowKit Go.Maps Go.Sort

noncomputable def rulB (a b : List Rl) : Bool := @decide (a = b) (Classical.propDecidable _)
theorem rulB_yes {a b : List Rl} (h : a = b) : rulB a b = true := by unfold rulB; exact @decide_eq_true _ (Classical.propDecidable _) h
theorem rulB_no {a b : List Rl} (h : a ≠ b) : rulB a b = false := by unfold rulB; exact @decide_eq_false _ (Classical.propDecidable _) h
theorem rl_ext {a b : Rl} (h1 : a.name = b.name) (h2 : a.skip = b.skip) (h3 : a.re = b.re) : a = b := by cases a; cases b; simp_all
theorem list_ext {α : Type} {a b : List α} (hl : a.length = b.length) (h : ∀ j (h1 : j < a.length) (h2 : j < b.length), a[j] = b[j]) : a = b := List.ext_getElem hl h
theorem strT_beqT (a b : Txt) : ((strT a).toList == (strT b).toList) = decide (a = b) := by
 rw [strT_toL, strT_toL, Bool.eq_iff_iff, beq_iff_eq, decide_eq_true_eq]
/-- two boxes of arguments -/
theorem boxes2 (w : World) (r n l p r' n' l' p' : Value) (s s' : Int) : ∃ W, (w.alloc (.cells #[r, n, l, p, .int .i64 s] 27)).alloc (.cells #[r', n', l', p', .int .i64 s'] 27) = W ∧ Below w.heap.size w W ∧ ∀ u, Below W.heap.size W u → (u.cell? ⟨w.heap.size, 0, none⟩ = some r ∧ u.cell? ⟨w.heap.size, 1, none⟩ = some n ∧ u.cell? ⟨w.heap.size, 2, none⟩ = some l ∧ u.cell? ⟨w.heap.size, 3, none⟩ = some p ∧ u.cell? ⟨w.heap.size, 4, none⟩ = some (.int .i64 s)) ∧ (u.cell? ⟨w.heap.size + 1, 0, none⟩ = some r' ∧ u.cell? ⟨w.heap.size + 1, 1, none⟩ = some n' ∧ u.cell? ⟨w.heap.size + 1, 2, none⟩ = some l' ∧ u.cell? ⟨w.heap.size + 1, 3, none⟩ = some p' ∧ u.cell? ⟨w.heap.size + 1, 4, none⟩ = some (.int .i64 s')) := by
 obtain ⟨h1, h2⟩ := two_blocks w (.cells #[r, n, l, p, .int .i64 s] 27) (.cells #[r', n', l', p', .int .i64 s'] 27)
 exact ⟨_, rfl, bl_step (al' w _) (al' _ _), fun u hu => ⟨cells5m (hs_keep h1 hu), cells5m (hs_keep h2 hu)⟩⟩
set_option maxRecDepth 20000 in
set_option maxHeartbeats 16000000 in
theorem refRulesC (rv nv lv pv rv' nv' lv' pv' : Value) (g h : Gm) (w : World) (hV : GmV w rv nv lv pv g) (hV' : GmV w rv' nv' lv' pv' h) (hl : g.rules.length ≤ 1000) (hl' : h.rules.length ≤ 1000) (hre : ∀ r ∈ g.rules, r.re.length ≤ 1000000) :
 Calls Tryz.prog 30 #[gmA rv nv lv pv g.start, gmA rv' nv' lv' pv' h.start] w fun e w' => e = .returned (.bool (rulB g.rules h.rules)) ∧ Below w.heap.size w w' := by
 obtain ⟨ra, rc, rfl⟩ := hV.rules.shape
 obtain ⟨ra', rc', rfl⟩ := hV'.rules.shape
 obtain ⟨W, hW, hB1, hBx9⟩ := boxes2 w (.slice ra g.rules.length rc) nv lv pv (.slice ra' h.rules.length rc') nv' lv' pv' g.start h.start
 have hB := hid hB1
 have hBx := hid hBx9
 have hyes : Hid (g.rules.length = h.rules.length → (∀ j (h1 : j < g.rules.length) (h2 : j < h.rules.length), g.rules[j] = h.rules[j]) → rulB g.rules h.rules = true) := hid (fun h1 h2 => rulB_yes (list_ext h1 h2))
 have hno : Hid (∀ k (h1 : k < g.rules.length) (h2 : k < h.rules.length), g.rules[k] ≠ h.rules[k] → rulB g.rules h.rules = false) := hid (fun k h1 h2 h3 => rulB_no (fun e => h3 (by simp only [e])))
 have hno2 : Hid (g.rules.length ≠ h.rules.length → rulB g.rules h.rules = false) := hid (fun h1 => rulB_no (fun e => h1 (by rw [e])))
 have hK : Hid (∀ u, Below W.heap.size W u → ∀ k (hk : k < g.rules.length), ∃ b o q1 q2 q3, ra = some ⟨b, o, none⟩ ∧ u.cell? ⟨b, o + k * 3, none⟩ = some (.string (strT g.rules[k].name)) ∧ u.cell? ⟨b, o + k * 3 + 1, none⟩ = some (.slice q1 q2 q3) ∧ u.cell? ⟨b, o + k * 3 + 2, none⟩ = some (.bool g.rules[k].skip) ∧ Cels u (.slice q1 q2 q3) g.rules[k].re) := hid (fun u hu k hk => by
  obtain ⟨b, o, e, -, v, h0, h1, h2, hN⟩ := (hV.keep (bl_step hB1 hu)).rules.at hk
  obtain ⟨q1, q3, rfl, -⟩ := id hN
  exact ⟨b, o, q1, _, q3, e, h0, h1, h2, hN⟩)
 have hK' : Hid (∀ u, Below W.heap.size W u → ∀ k (hk : k < h.rules.length), ∃ b o q1 q2 q3, ra' = some ⟨b, o, none⟩ ∧ u.cell? ⟨b, o + k * 3, none⟩ = some (.string (strT h.rules[k].name)) ∧ u.cell? ⟨b, o + k * 3 + 1, none⟩ = some (.slice q1 q2 q3) ∧ u.cell? ⟨b, o + k * 3 + 2, none⟩ = some (.bool h.rules[k].skip) ∧ Cels u (.slice q1 q2 q3) h.rules[k].re) := hid (fun u hu k hk => by
  obtain ⟨b, o, e, -, v, h0, h1, h2, hN⟩ := (hV'.keep (bl_step hB1 hu)).rules.at hk
  obtain ⟨q1, q3, rfl, -⟩ := id hN
  exact ⟨b, o, q1, _, q3, e, h0, h1, h2, hN⟩)
 have hrl := hid hre
 generalize rulB g.rules h.rules = R at *
 obtain ⟨⟨z0, -⟩, ⟨q0, -⟩⟩ := hBx.out W (Below.refl _ _)
 obtain ⟨rn, hrn⟩ : ∃ n, Hid (g.rules.length = n) := ⟨_, hid rfl⟩
 obtain ⟨rm, hrm⟩ : ∃ n, Hid (h.rules.length = n) := ⟨_, hid rfl⟩
 clear hV hV' hB1 hBx9 hre
 rw [hrn.out] at hl hW hBx hno2 z0 ⊢
 rw [hrm.out] at hl' hW hBx hno2 q0 ⊢
 generalize g.start = st at *
 generalize h.start = st' at *
 by_cases hlen : rn = rm
 · subst hlen
   go_enter Tryz.func30, Tryz.ntmps30
   go_wp2
   clear hW z0 q0
   go_loopw [5] (fun i wr => ∃ k : Nat, k ≤ rn ∧ i = .int .i64 (k : Int) ∧ Hid (∀ j (h1 : j < g.rules.length) (h2 : j < h.rules.length), j < k → g.rules[j] = h.rules[j]) ∧ Hid (Below W.heap.size W wr)) (fun i _ => rn - (intOf i).toNat)
   case atStart => exact ⟨0, Nat.zero_le _, rfl, hid (fun _ _ _ h => absurd h (Nat.not_lt_zero _)), hid (Below.refl _ _)⟩
   case round =>
    obtain ⟨k, hk, rfl, hI, hbl⟩ := hrel
    obtain ⟨⟨z0, -⟩, ⟨q0, -⟩⟩ := hBx.out wr hbl.out
    by_cases hlt : k < rn
    · have hltz : (k : Int) < (rn : Int) := by omega
      have hk1 : k < g.rules.length := by rw [hrn.out]; exact hlt
      have hk2 : k < h.rules.length := by rw [hrm.out]; exact hlt
      obtain ⟨b, o, p1, p2, p3, rfl, x0, x1, x2, hC⟩ := hK.out wr hbl.out k hk1
      obtain ⟨b', o', p1', p2', p3', rfl, x0', x1', x2', hC'⟩ := hK'.out wr hbl.out k hk2
      have hn := hid (hno.out k hk1 hk2)
      have hln := hrl.out _ (List.getElem_mem hk1)
      have cA : Hid (∀ d os, Calls Tryz.prog 23 #[.slice p1 p2 p3, .slice p1' p2' p3'] (grow (redrawn wr d) os) fun e w'' => e = .returned (.bool (decide (g.rules[k].re = h.rules[k].re))) ∧ ∃ p : Regrown, w'' = grow (redrawn wr p.d) p.os) := hid (fun d os => Calls.regrown_of (sameQ _ _ _ _ _ hln (hC.keep (below_regrown wr d os)) (hC'.keep (below_regrown wr d os))))
      have hmore : Hid (g.rules[k] = h.rules[k] → ∀ j (h1 : j < g.rules.length) (h2 : j < h.rules.length), j < k + 1 → g.rules[j] = h.rules[j]) := hid (fun h9 j h1 h2 h3 => by
       rcases Nat.lt_or_ge j k with h8 | h8
       · exact hI.out j h1 h2 h8
       · obtain rfl : j = k := by omega
         exact h9)
      have y0 := cell_regrown z0
      have y1 := cell_regrown q0
      have y2 := cell_regrown x0
      have y3 := cell_regrown x1
      have y4 := cell_regrown x2
      have y5 := cell_regrown x0'
      have y6 := cell_regrown x1'
      have y7 := cell_regrown x2'
      clear hC hC' hln x0 x1 x2 x0' x1' x2' hI hno hyes hno2 hK hK' hrl q0
      by_cases e1 : g.rules[k].name = h.rules[k].name
      · by_cases e2 : g.rules[k].skip = h.rules[k].skip
        · by_cases e3 : g.rules[k].re = h.rules[k].re
          · have hm9 := hid (hmore.out (rl_ext e1 e2 e3))
            rw [decide_eq_true e3] at cA
            rw [← e1] at y5
            rw [← e2] at y7
            clear e1 e2 e3 hn hmore
            generalize strT g.rules[k].name = U at *
            generalize g.rules[k].skip = sk at *
            go_wp2_with fail
            refine wp_region_quiet_below (by kernel_rfl) (by kernel_rfl) ?_
            repeat (first | go_big_quiet_step (exact cA.out _ _) | quiet_step (exact cA.out _ _))
            refine wpQuiet_nil ?_
            intro _ hw'
            obtain ⟨⟨dq, osq⟩, hw''⟩ := hw'
            subst hw''
            have hwq := hid (bl_step hbl.out (below_regrown wr dq osq))
            go_wp2
            go_roundw
            case rel => exact ⟨k + 1, by omega, by go_num, hm9, hwq⟩
            case measure => simp [intOf]; omega
          · obtain rfl := hn.out (fun e => e3 (by rw [e]))
            rw [decide_eq_false e3] at cA
            rw [← e1] at y5
            rw [← e2] at y7
            clear e1 e2 e3 hn hmore
            generalize strT g.rules[k].name = U at *
            generalize g.rules[k].skip = sk at *
            go_wp2_with fail
            refine wp_region_quiet_below (by kernel_rfl) (by kernel_rfl) ?_
            repeat (first | go_big_quiet_step (exact cA.out _ _) | quiet_step (exact cA.out _ _))
            refine wpQuiet_nil ?_
            intro _ hw'
            obtain ⟨⟨dq, osq⟩, hw''⟩ := hw'
            subst hw''
            have hwq := hid (bl_step hbl.out (below_regrown wr dq osq))
            go_wp2
            go_ret
            exact ⟨rfl, bl_step hB.out hwq.out⟩
        · obtain rfl := hn.out (fun e => e2 (by rw [e]))
          have e2z : (g.rules[k].skip == h.rules[k].skip) = false := by rw [beq_eq_false_iff_ne]; exact e2
          rw [← e1] at y5
          clear e1 e2 hn hmore cA
          generalize strT g.rules[k].name = U at *
          generalize g.rules[k].skip = sk at *
          generalize h.rules[k].skip = sk' at *
          go_wp2_with fail
          refine wp_region_quiet_below (by kernel_rfl) (by kernel_rfl) ?_
          repeat (first | go_big_quiet_step (fail) | quiet_step (fail))
          refine wpQuiet_nil ?_
          intro _ hw'
          obtain ⟨⟨dq, osq⟩, hw''⟩ := hw'
          subst hw''
          have hwq := hid (bl_step hbl.out (below_regrown wr dq osq))
          go_wp2
          go_ret
          exact ⟨rfl, bl_step hB.out hwq.out⟩
      · obtain rfl := hn.out (fun e => e1 (by rw [e]))
        have e1z : ((strT g.rules[k].name).toList == (strT h.rules[k].name).toList) = false := by rw [strT_beqT]; exact decide_eq_false e1
        clear e1 hn hmore cA
        generalize strT g.rules[k].name = U at *
        generalize strT h.rules[k].name = U' at *
        generalize g.rules[k].skip = sk at *
        generalize h.rules[k].skip = sk' at *
        go_wp2_with fail
        refine wp_region_quiet_below (by kernel_rfl) (by kernel_rfl) ?_
        repeat (first | go_big_quiet_step (fail) | quiet_step (fail))
        refine wpQuiet_nil ?_
        intro _ hw'
        obtain ⟨⟨dq, osq⟩, hw''⟩ := hw'
        subst hw''
        have hwq := hid (bl_step hbl.out (below_regrown wr dq osq))
        go_wp2
        go_ret
        exact ⟨rfl, bl_step hB.out hwq.out⟩
    · have hltz : ¬ (k : Int) < (rn : Int) := by omega
      obtain rfl := hyes.out (by rw [hrn.out, hrm.out]) (fun j h1 h2 => hI.out j h1 h2 (by rw [hrn.out] at h1; omega))
      go_wp2
      go_ret
      exact ⟨rfl, bl_step hB.out hbl.out⟩
 · obtain rfl := hno2.out hlen
   have hlz : ((rn : Int) != (rm : Int)) = true := bne_iff_ne.2 (by omega)
   go_enter Tryz.func30, Tryz.ntmps30
   go_wp2
   go_ret
   exact ⟨rfl, hB.out⟩

end Go.Proofs.YtloaikjealcbmaaGreat
namespace Go.Proofs.YtloaikjealcbmaaGreat
open Go.RowKit Go.Maps Go.Sort

/-- a terminal has the same level in the other grammar -/
def InsP (g h : Gm) (i : Nat) : Prop := 1 ≤ h.sym (g.name (i : Int)) ∧ h.sym (g.name (i : Int)) ≤ h.terms ∧ g.levels.getD i (0, 0) = h.levels.getD (h.sym (g.name (i : Int))) (0, 0)
noncomputable def insB (g h : Gm) : Bool := @decide (∀ i : Nat, 1 ≤ i → i ≤ g.terms → InsP g h i) (Classical.propDecidable _)
theorem insB_yes {g h : Gm} (k : ∀ i : Nat, 1 ≤ i → i ≤ g.terms → InsP g h i) : insB g h = true := by unfold insB; exact @decide_eq_true _ (Classical.propDecidable _) k
theorem insB_no {g h : Gm} (k : ¬ ∀ i : Nat, 1 ≤ i → i ≤ g.terms → InsP g h i) : insB g h = false := by unfold insB; exact @decide_eq_false _ (Classical.propDecidable _) k
theorem terms_leD (g : Gm) : g.terms ≤ g.rules.length := trmK_le _ _
set_option maxRecDepth 20000 in
set_option maxHeartbeats 16000000 in
theorem refInsideC (rv nv lv pv rv' nv' lv' pv' : Value) (g h : Gm) (w : World) (hV : GmV w rv nv lv pv g) (hV' : GmV w rv' nv' lv' pv' h) (hl : g.rules.length ≤ 1000) (hl' : h.rules.length ≤ 1000) (hn : g.nonts.length ≤ 1000) (hn' : h.nonts.length ≤ 1000) (hg : g.levels.length = g.terms + 1) (hh : h.levels.length = h.terms + 1) :
 Calls Tryz.prog 31 #[gmA rv nv lv pv g.start, gmA rv' nv' lv' pv' h.start] w fun e w' => e = .returned (.bool (insB g h)) ∧ Below w.heap.size w w' := by
 obtain ⟨la, lc, rfl⟩ := hV.levels.shape
 obtain ⟨la', lc', rfl⟩ := hV'.levels.shape
 obtain ⟨W, hW, hB1, hBx9⟩ := boxes2 w rv nv (.slice la g.levels.length lc) pv rv' nv' (.slice la' h.levels.length lc') pv' g.start h.start
 have hB := hid hB1
 have hBx := hid hBx9
 have tg := terms_leD g
 have th := terms_leD h
 have hyes := hid (fun k => insB_yes (g := g) (h := h) k)
 have hno : Hid (∀ i : Nat, 1 ≤ i → i ≤ g.terms → ¬ InsP g h i → insB g h = false) := hid (fun i h1 h2 h3 => insB_no (fun k => h3 (k i h1 h2)))
 have GT := hid (fun u (hu : Below W.heap.size W u) => refTermsC rv nv _ pv g u (hV.keep (bl_step hB1 hu)) (by omega))
 have GT' := hid (fun u (hu : Below W.heap.size W u) => refTermsC rv' nv' _ pv' h u (hV'.keep (bl_step hB1 hu)) (by omega))
 have GN := hid (fun (j : Int) u (hu : Below W.heap.size W u) => refNameC rv nv _ pv g j u (hV.keep (bl_step hB1 hu)) (by omega) (by omega))
 have GS := hid (fun (t : Txt) u (hu : Below W.heap.size W u) => refSymC rv' nv' _ pv' h t u (hV'.keep (bl_step hB1 hu)) (by omega) (by omega))
 have hL : Hid (∀ u, Below W.heap.size W u → ∀ k, k < g.levels.length → ∃ b o, la = some ⟨b, o, none⟩ ∧ u.cell? ⟨b, o + k * 2, none⟩ = some (.int .i64 (g.levels.getD k (0, 0)).1) ∧ u.cell? ⟨b, o + k * 2 + 1, none⟩ = some (.int .i64 (g.levels.getD k (0, 0)).2)) := hid (fun u hu k hk => by
  obtain ⟨b, o, e, -, h0, h1⟩ := (hV.keep (bl_step hB1 hu)).levels.at hk
  rw [List.getD_eq_getElem?_getD, List.getElem?_eq_getElem hk, Option.getD_some]
  exact ⟨b, o, e, h0, h1⟩)
 have hL' : Hid (∀ u, Below W.heap.size W u → ∀ k, k < h.levels.length → ∃ b o, la' = some ⟨b, o, none⟩ ∧ u.cell? ⟨b, o + k * 2, none⟩ = some (.int .i64 (h.levels.getD k (0, 0)).1) ∧ u.cell? ⟨b, o + k * 2 + 1, none⟩ = some (.int .i64 (h.levels.getD k (0, 0)).2)) := hid (fun u hu k hk => by
  obtain ⟨b, o, e, -, h0, h1⟩ := (hV'.keep (bl_step hB1 hu)).levels.at hk
  rw [List.getD_eq_getElem?_getD, List.getElem?_eq_getElem hk, Option.getD_some]
  exact ⟨b, o, e, h0, h1⟩)
 have hI9 : Hid (∀ i : Nat, InsP g h i ↔ 1 ≤ h.sym (g.name (i : Int)) ∧ h.sym (g.name (i : Int)) ≤ h.terms ∧ g.levels.getD i (0, 0) = h.levels.getD (h.sym (g.name (i : Int))) (0, 0)) := hid (fun i => Iff.rfl)
 generalize InsP g h = IP at *
 generalize insB g h = R at *
 generalize g.levels.getD = LG at *
 generalize h.levels.getD = LH at *
 rw [hg] at GT GN hL hW hBx ⊢
 rw [hh] at GT' GS hL' hW hBx ⊢
 obtain ⟨tm, htm⟩ : ∃ n, Hid (g.terms = n) := ⟨_, hid rfl⟩
 obtain ⟨tn, htn⟩ : ∃ n, Hid (h.terms = n) := ⟨_, hid rfl⟩
 rw [htm.out] at GT GN hL hW hBx tg hno hyes ⊢
 rw [htn.out] at GT' GS hL' hW hBx th hI9 ⊢
 have htm16 : tm ≤ 1000 := by omega
 have htn16 : tn ≤ 1000 := by omega
 clear hV hV' hB1 hBx9 hg hh tg th
 generalize g.start = st at *
 generalize h.start = st' at *
 go_enter Tryz.func31, Tryz.ntmps31
 go_wp2
 clear hW
 go_loopw [5] (fun i wr => ∃ k : Nat, 1 ≤ k ∧ k ≤ tm + 1 ∧ i = .int .i64 (k : Int) ∧ Hid (∀ j, 1 ≤ j → j < k → IP j) ∧ Hid (Below W.heap.size W wr)) (fun i _ => tm + 1 - (intOf i).toNat)
 case atStart => exact ⟨1, Nat.le_refl _, by omega, rfl, hid (fun j h1 h2 => by omega), hid (Below.refl _ _)⟩
 case round =>
  obtain ⟨k, hk1, hk, rfl, hI, hbl⟩ := hrel
  obtain ⟨⟨z0, z1, z2, z3, z4⟩, ⟨q0, q1, q2, q3, q4⟩⟩ := hBx.out wr hbl.out
  have G := hid (GT.out wr hbl.out)
  by_cases hlt : k ≤ tm
  · have hltz : (k : Int) ≤ (tm : Int) := by omega
    go_wp2_with (go_at_call 35; refine G.out.mono ?_; clear G; rintro e w1 ⟨rfl, hc1⟩; have h1 := hid (bl_step hbl.out hc1); clear hc1)
    clear z0 z1 z2 z3 z4 q0 q1 q2 q3 q4
    obtain ⟨⟨z0, z1, z2, z3, z4⟩, ⟨q0, q1, q2, q3, q4⟩⟩ := hBx.out w1 h1.out
    have y0 := cell_regrown z0
    have y1 := cell_regrown z1
    have y2 := cell_regrown z2
    have y3 := cell_regrown z3
    have y4 := cell_regrown z4
    have x0 := cell_regrown q0
    have x1 := cell_regrown q1
    have x2 := cell_regrown q2
    have x3 := cell_regrown q3
    have x4 := cell_regrown q4
    have cA : Hid (∀ d os, Calls Tryz.prog 32 #[gmA rv nv (.slice la (tm + 1) lc) pv st, .int .i64 (k : Int)] (grow (redrawn w1 d) os) fun e w'' => e = .returned (.string (strT (g.name (k : Int)))) ∧ ∃ p : Regrown, w'' = grow (redrawn w1 p.d) p.os) := hid (fun d os => Calls.regrown_of (GN.out k _ (bl_step h1.out (below_regrown w1 d os))))
    have cB : Hid (∀ d os, Calls Tryz.prog 53 #[gmA rv' nv' (.slice la' (tn + 1) lc') pv' st', .string (strT (g.name (k : Int)))] (grow (redrawn w1 d) os) fun e w'' => e = .returned (.int .i64 (h.sym (g.name (k : Int)) : Int)) ∧ ∃ p : Regrown, w'' = grow (redrawn w1 p.d) p.os) := hid (fun d os => Calls.regrown_of (GS.out _ _ (bl_step h1.out (below_regrown w1 d os))))
    have hIk := hid (hI9.out k)
    have hnk := hid (hno.out k hk1 hlt)
    clear hI9 hno hyes
    generalize h.sym (g.name (k : Int)) = n at *
    generalize strT (g.name (k : Int)) = S9 at *
    refine wp_region_quiet_below (by kernel_rfl) (by kernel_rfl) ?_
    repeat (first | go_big_quiet_step (first | with_reducible exact cA.out _ _ | with_reducible exact cB.out _ _) | quiet_step (first | with_reducible exact cA.out _ _ | with_reducible exact cB.out _ _))
    refine wpQuiet_nil ?_
    intro _ hw'
    obtain ⟨⟨dq, osq⟩, hw''⟩ := hw'
    subst hw''
    have hq := hid (bl_step h1.out (below_regrown w1 dq osq))
    generalize grow (redrawn w1 dq) osq = w2 at *
    clear y0 y1 y2 y3 y4 x0 x1 x2 x3 x4 cA cB z0 z1 z2 z3 z4 q0 q1 q2 q3 q4
    obtain ⟨⟨z0, z1, z2, z3, z4⟩, ⟨q0, q1, q2, q3, q4⟩⟩ := hBx.out w2 hq.out
    have y2 := cell_regrown z2
    have x0 := cell_regrown q0
    have x1 := cell_regrown q1
    have x2 := cell_regrown q2
    have x3 := cell_regrown q3
    have x4 := cell_regrown q4
    have cT : Hid (∀ d os, Calls Tryz.prog 35 #[gmA rv' nv' (.slice la' (tn + 1) lc') pv' st'] (grow (redrawn w2 d) os) fun e w'' => e = .returned (.int .i64 (tn : Int)) ∧ ∃ p : Regrown, w'' = grow (redrawn w2 p.d) p.os) := hid (fun d os => Calls.regrown_of (GT'.out _ (bl_step hq.out (below_regrown w2 d os))))
    clear z0 z1 z2 z3 z4 q0 q1 q2 q3 q4
    by_cases n1 : 1 ≤ n
    · have n1z : decide ((n : Int) < 1) = false := decide_eq_false (by omega)
      by_cases n2 : n ≤ tn
      · have n2z : decide ((tn : Int) < (n : Int)) = false := decide_eq_false (by omega)
        obtain ⟨b, o, rfl, c0, c1⟩ := hL.out w2 hq.out k (by omega)
        obtain ⟨b', o', rfl, c0', c1'⟩ := hL'.out w2 hq.out n (by omega)
        have f0 := cell_regrown c0
        have f1 := cell_regrown c1
        have f2 := cell_regrown c0'
        have f3 := cell_regrown c1'
        have hkz1 : (k : Int) < (tm : Int) + 1 := by omega
        have hnz1 : (n : Int) < (tn : Int) + 1 := by omega
        have hsame : Hid (LG k (0, 0) = LH n (0, 0) → ∀ j, 1 ≤ j → j < k + 1 → IP j) := hid (fun e j h1 h2 => by
         rcases Nat.lt_or_ge j k with h8 | h8
         · exact hI.out j h1 h8
         · obtain rfl : j = k := by omega
           exact hIk.out.2 ⟨n1, n2, e⟩)
        have hdiff : Hid (LG k (0, 0) ≠ LH n (0, 0) → R = false) := hid (fun e => hnk.out (fun h9 => e (hIk.out.1 h9).2.2))
        clear hL hL' c0 c1 c0' c1' hIk hnk hI hltz
        generalize LG k (0, 0) = A9 at *
        generalize LH n (0, 0) = B9 at *
        obtain ⟨l0, l1⟩ := A9
        obtain ⟨m0, m1⟩ := B9
        dsimp only at f0 f1 f2 f3
        by_cases a0 : l0 = m0
        · subst a0
          by_cases a1 : l1 = m1
          · subst a1
            have hm9 := hid (hsame.out rfl)
            clear hsame hdiff
            go_wp2_with fail
            refine wp_region_quiet_below (by kernel_rfl) (by kernel_rfl) ?_
            repeat (first | go_big_quiet_step (with_reducible exact cT.out _ _) | quiet_step (with_reducible exact cT.out _ _))
            refine wpQuiet_nil ?_
            intro _ hw'
            obtain ⟨⟨dq2, osq2⟩, hw''⟩ := hw'
            subst hw''
            have hq2 := hid (bl_step hq.out (below_regrown w2 dq2 osq2))
            generalize grow (redrawn w2 dq2) osq2 = w3 at *
            go_wp2
            go_roundw
            case rel => exact ⟨k + 1, by omega, by omega, by go_num, hm9, hq2⟩
            case measure => simp [intOf]; omega
          · obtain rfl := hdiff.out (fun e => a1 (by injection e))
            have a1z : (l1 == m1) = false := by rw [beq_eq_false_iff_ne]; exact a1
            clear hsame hdiff a1
            go_wp2_with fail
            refine wp_region_quiet_below (by kernel_rfl) (by kernel_rfl) ?_
            repeat (first | go_big_quiet_step (with_reducible exact cT.out _ _) | quiet_step (with_reducible exact cT.out _ _))
            refine wpQuiet_nil ?_
            intro _ hw'
            obtain ⟨⟨dq2, osq2⟩, hw''⟩ := hw'
            subst hw''
            have hq2 := hid (bl_step hq.out (below_regrown w2 dq2 osq2))
            generalize grow (redrawn w2 dq2) osq2 = w3 at *
            go_wp2
            go_ret
            exact ⟨rfl, bl_step hB.out hq2.out⟩
        · obtain rfl := hdiff.out (fun e => a0 (by injection e))
          have a0z : (l0 == m0) = false := by rw [beq_eq_false_iff_ne]; exact a0
          clear hsame hdiff a0
          go_wp2_with fail
          refine wp_region_quiet_below (by kernel_rfl) (by kernel_rfl) ?_
          repeat (first | go_big_quiet_step (with_reducible exact cT.out _ _) | quiet_step (with_reducible exact cT.out _ _))
          refine wpQuiet_nil ?_
          intro _ hw'
          obtain ⟨⟨dq2, osq2⟩, hw''⟩ := hw'
          subst hw''
          have hq2 := hid (bl_step hq.out (below_regrown w2 dq2 osq2))
          generalize grow (redrawn w2 dq2) osq2 = w3 at *
          go_wp2
          go_ret
          exact ⟨rfl, bl_step hB.out hq2.out⟩
      · obtain rfl := hnk.out (fun h9 => n2 (hIk.out.1 h9).2.1)
        have n2z : decide ((tn : Int) < (n : Int)) = true := decide_eq_true (by omega)
        clear hIk hnk hI
        go_wp2_with fail
        refine wp_region_quiet_below (by kernel_rfl) (by kernel_rfl) ?_
        repeat (first | go_big_quiet_step (with_reducible exact cT.out _ _) | quiet_step (with_reducible exact cT.out _ _))
        refine wpQuiet_nil ?_
        intro _ hw'
        obtain ⟨⟨dq2, osq2⟩, hw''⟩ := hw'
        subst hw''
        have hq2 := hid (bl_step hq.out (below_regrown w2 dq2 osq2))
        generalize grow (redrawn w2 dq2) osq2 = w3 at *
        go_wp2
        go_ret
        exact ⟨rfl, bl_step hB.out hq2.out⟩
    · obtain rfl := hnk.out (fun h9 => n1 (hIk.out.1 h9).1)
      have n1z : decide ((n : Int) < 1) = true := decide_eq_true (by omega)
      clear hIk hnk hI cT
      go_wp2_with fail
      refine wp_region_quiet_below (by kernel_rfl) (by kernel_rfl) ?_
      repeat (first | go_big_quiet_step (fail) | quiet_step (fail))
      refine wpQuiet_nil ?_
      intro _ hw'
      obtain ⟨⟨dq2, osq2⟩, hw''⟩ := hw'
      subst hw''
      have hq2 := hid (bl_step hq.out (below_regrown w2 dq2 osq2))
      generalize grow (redrawn w2 dq2) osq2 = w3 at *
      go_wp2
      go_ret
      exact ⟨rfl, bl_step hB.out hq2.out⟩
  · have hltz : ¬ (k : Int) ≤ (tm : Int) := by omega
    obtain rfl := hyes.out (fun j h1 h2 => hI.out j h1 (by omega))
    go_wp2_with (go_at_call 35; refine G.out.mono ?_; clear G; rintro e w1 ⟨rfl, hc1⟩; have h1 := hid (bl_step hbl.out hc1); clear hc1)
    go_ret
    exact ⟨rfl, bl_step hB.out h1.out⟩

end Go.Proofs.YtloaikjealcbmaaGreat
