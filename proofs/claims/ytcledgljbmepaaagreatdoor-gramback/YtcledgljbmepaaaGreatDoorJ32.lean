/- alternative, alternatives. alternatives. lines: its texts. lines, its walk. -/
import Derived.Test.YtcledgljbmepaaaGreatDoorJ31
namespace Go.Proofs.YtcledgljbmepaaaGreatDoor
open Go.RowKit Go.Maps Go.Sort

def altW (g : Gm) (p : Pd) : List Txt := p.right.map g.name ++ (if p.prec = lastT g.terms p.right p.right.length then [] else [[37], g.name p.prec])
def altT (g : Gm) (p : Pd) : Txt := Lib.join (altW g p) [32]
theorem altW_len {g : Gm} (h : ReadG g) {p : Pd} (hp : p.right.length ≤ 8) : (altW g p).length ≤ 10 ∧ ∀ t ∈ altW g p, t.length ≤ 16 := by
  unfold altW
  refine ⟨?_, fun t ht => ?_⟩
  · rw [List.length_append, List.length_map]
    split
    · simp; omega
    · simp; omega
  · rw [List.mem_append, List.mem_map] at ht
    rcases ht with ⟨k, -, rfl⟩ | ht
    · exact name_len16 h k
    · split at ht
      · exact absurd ht List.not_mem_nil
      · rcases List.mem_cons.1 ht with rfl | ht
        · decide
        · rw [List.mem_singleton] at ht
          subst ht
          exact name_len16 h _
theorem altT_len {g : Gm} (h : ReadG g) {p : Pd} (hp : p.right.length ≤ 8) : (altT g p).length ≤ 170 := by
  obtain ⟨h1, h2⟩ := altW_len h hp
  have := join_len (sep := [32]) h2
  unfold altT
  simp only [List.length_singleton] at this
  omega
theorem txt_two (w : World) (x y : Txt) : Lst 1 TxtAt (w.alloc (.cells #[.string (strT x), .string (strT y)] 9)) (.slice (some ⟨w.heap.size, 0, none⟩) 2 2) [x, y] :=
  ⟨_, 2, rfl, Nat.le_refl _, fun h => (by cases h), fun j hj => ⟨_, 0, rfl, by rw [World.size_alloc]; omega, by
    have hj : j = 0 ∨ j = 1 := by simp at hj; omega
    rcases hj with rfl | rfl
    · exact blk_cell (heap_new w _) rfl
    · exact blk_cell (heap_new w _) rfl⟩⟩
set_option maxRecDepth 20000 in
set_option maxHeartbeats 8000000 in
theorem alternativeC (g : Gm) (p : Pd) (rv nv lv pv v : Value) (w : World) (hV : GmV w rv nv lv pv g) (hr : ReadG g) (hv : Nums w v p.right) (hp : p.right.length ≤ 8) (hk8 : ∀ k ∈ p.right, k ≤ 9223372036854775807) (hpp : p.prec ≤ 9223372036854775807) :
    Calls Tryz.prog 57 #[gmA rv nv lv pv g.start, .agg #[.int .i64 p.left, v, .int .i64 p.prec]] w fun e w' => e = .returned (.string (strT (altT g p))) ∧ Below w.heap.size w w' := by
  have hbn := hr.bnd
  obtain ⟨ra, rc, rfl⟩ := hV.rules.shape
  obtain ⟨na, nc, rfl⟩ := hV.nonts.shape
  obtain ⟨la, lc, rfl⟩ := hV.levels.shape
  obtain ⟨pa, pc, rfl⟩ := hV.prods.shape
  obtain ⟨va, vc, rfl⟩ := shapeN hv
  have hB1 := al' w (.cells #[.slice ra g.rules.length rc, .slice na g.nonts.length nc, .slice la g.levels.length lc, .slice pa g.prods.length pc, .int .i64 g.start] 28)
  have hB2 := al' (w.alloc (.cells #[.slice ra g.rules.length rc, .slice na g.nonts.length nc, .slice la g.levels.length lc, .slice pa g.prods.length pc, .int .i64 g.start] 28)) (.cells #[.int .i64 p.left, .slice va p.right.length vc, .int .i64 p.prec] 39)
  have k1 := hs_keep (heap_new w (.cells #[.slice ra g.rules.length rc, .slice na g.nonts.length nc, .slice la g.levels.length lc, .slice pa g.prods.length pc, .int .i64 g.start] 28)) hB2
  have k2 := heap_new (w.alloc (.cells #[.slice ra g.rules.length rc, .slice na g.nonts.length nc, .slice la g.levels.length lc, .slice pa g.prods.length pc, .int .i64 g.start] 28)) (.cells #[.int .i64 p.left, .slice va p.right.length vc, .int .i64 p.prec] 39)
  rw [World.size_alloc] at k2
  have hB := hid (bl_step hB1 hB2)
  obtain ⟨W, hW⟩ : ∃ x, (w.alloc (.cells #[.slice ra g.rules.length rc, .slice na g.nonts.length nc, .slice la g.levels.length lc, .slice pa g.prods.length pc, .int .i64 g.start] 28)).alloc (.cells #[.int .i64 p.left, .slice va p.right.length vc, .int .i64 p.prec] 39) = x := ⟨_, rfl⟩
  rw [hW] at hB k1 k2
  have hk1 := hid (fun u (hu : Below W.heap.size W u) => cells5m (hs_keep k1 hu))
  have hk2 := hid (fun u (hu : Below W.heap.size W u) => cells3q (hs_keep k2 hu))
  have hKp : Hid (∀ u, Below w.heap.size w u → ∀ k (hk : k < p.right.length), ∃ b o, va = some ⟨b, o, none⟩ ∧ u.cell? ⟨b, o + k, none⟩ = some (.int .i64 p.right[k])) := hid (fun u hu k hk => by
    obtain ⟨b, o, cap, e, -, -, hat⟩ := hv.at (by omega)
    injection e with e _ _
    exact ⟨b, o, e, keep_cell hu (hat k hk)⟩)
  have GN := hid (fun (t : Int) (ht : t ≤ 9223372036854775807) u (hu : Below w.heap.size w u) => gnameC g t _ _ _ _ u (hV.keep hu) ht (by have := hbn.rules; omega) (by have := hbn.nonts; omega))
  have GL := hid (fun u (hu : Below w.heap.size w u) => lastTermC g _ _ _ _ _ p.right u (hV.keep hu) (by have := hbn.rules; omega) (hv.keep hu) (by omega))
  have hall := hid (fun k (hk : k < p.right.length) => hk8 _ (List.getElem_mem hk))
  have GJ := hid (fun u B v (h : OwnT u B v (altW g p)) => joinC h [32] (by have := (altW_len hr hp).1; omega) (by have := altT_len hr hp; exact Nat.le_trans this (by decide)))
  have e32 : strT [32] = ⟨#[32]⟩ := rfl
  rw [e32] at GJ
  have hj9 : Hid (Lib.join (altW g p) [32] = altT g p) := hid rfl
  simp only [hj9.out] at GJ
  obtain ⟨WL, hWL⟩ : ∃ F : Nat → List Txt, Hid (∀ k, (p.right.take k).map g.name = F k) := ⟨_, hid (fun _ => rfl)⟩
  have hWs : Hid (∀ k (hk : k < p.right.length), WL k ++ [g.name p.right[k]] = WL (k + 1)) := hid (fun k hk => by
    rw [← hWL.out, ← hWL.out, List.take_add_one, List.getElem?_eq_getElem hk, Option.toList_some, List.map_append]
    rfl)
  have hWl : Hid (∀ k, k ≤ p.right.length → (WL k).length ≤ 8) := hid (fun k hk => by rw [← hWL.out, List.length_map, List.length_take]; omega)
  have hO0 : Hid (OwnT W W.heap.size (.slice none 0 0) (WL 0)) := hid (by rw [← hWL.out]; exact World.ownsRow_nil _ _ _ _)
  obtain ⟨R, hR⟩ : ∃ x, Hid (lastT g.terms p.right p.right.length = x) := ⟨_, hid rfl⟩
  have hA : Hid (altW g p = WL p.right.length ++ (if p.prec = R then [] else [[37], g.name p.prec])) := hid (by rw [← hWL.out, List.take_length, ← hR.out]; rfl)
  rw [hR.out] at GL
  clear hV hr hv hbn hB1 hB2 k1 k2 hj9 hk8 hWL
  obtain ⟨n, hn⟩ : ∃ n, Hid (p.right.length = n) := ⟨_, hid rfl⟩
  rw [hn.out] at hp hk2 hWl hA GL hW ⊢
  generalize strT (altT g p) = AT at *
  generalize altW g p = AW at *
  generalize g.rules.length = rn at *
  generalize g.nonts.length = nn at *
  generalize g.levels.length = ll at *
  generalize g.prods.length = ppn at *
  generalize g.start = st at *
  generalize p.prec = pr at *
  generalize p.left = pl at *
  go_enter Tryz.func57, Tryz.ntmps57
  obtain ⟨z0, z1, z2⟩ := hk2.out W (Below.refl _ _)
  go_wp2
  clear hW z0 z1 z2
  go_loopw [5, 11] (fun v i wr => ∃ k : Nat, k ≤ n ∧ i = .int .i64 (k : Int) ∧ Hid (OwnT wr W.heap.size v (WL k)) ∧ Hid (Below W.heap.size W wr)) (fun _ i _ => n - (intOf i).toNat)
  case atStart => exact ⟨0, Nat.zero_le _, rfl, hO0, hid (Below.refl _ _)⟩
  case round =>
    obtain ⟨k, hk, rfl, hO, hbl⟩ := hrel
    have hbw := hid (bl_step hB.out hbl.out)
    by_cases hlt : k < n
    · have hltz : (k : Int) < (n : Int) := by omega
      have hkl : k < p.right.length := by rw [hn.out]; exact hlt
      obtain ⟨b, o, e, x0⟩ := hKp.out wr hbw.out k hkl
      subst e
      obtain ⟨y0, y1, y2, y3, y4⟩ := hk1.out wr hbl.out
      have hs := hWs.out k hkl
      have hln := hWl.out k hk
      have hak := hall.out k hkl
      generalize p.right[k] = x at *
      have G := hid (GN.out x hak wr hbw.out)
      have hs := hid hs
      have hap := hid (fun u (hu : Below wr.heap.size wr u) => app1T (own_below hO.out hu) (g.name x) (by omega) (Nat.le_trans hbl.out.size hu.size))
      clear hln hak hO
      generalize (WL k).length = m at *
      go_wp2_with (first
        | (go_at_call 35; refine G.out.mono ?_; clear G; rintro e w3 ⟨rfl, hc3⟩; obtain ⟨a', c', w', hrun, hO', hb'⟩ := hap.out w3 hc3; have hO9 := hid hO'; have hb9 := hid ((bl_step hbl.out hc3).trans hb'); clear hO' hb' hap)
        | (at_builtin; refine wp_run _ rfl _ _ _ rfl _ _ rfl rfl hrun ?_; clear hrun))
      go_roundw
      case rel => exact ⟨k + 1, by omega, by go_num, hid (by rw [← hs.out]; exact hO9.out), hb9⟩
      case measure => simp [intOf]; omega
    · have hltz : ¬ (k : Int) < (n : Int) := by omega
      obtain rfl : k = n := by omega
      have cA : Hid (∀ d os, Calls Tryz.prog 86 #[gmA (.slice ra rn rc) (.slice na nn nc) (.slice la ll lc) (.slice pa ppn pc) st, .slice va k vc] (grow (redrawn wr d) os) fun e w'' => e = .returned (.int .i64 R) ∧ ∃ p : Regrown, w'' = grow (redrawn wr p.d) p.os) := hid (fun d os => Calls.regrown_of (GL.out _ (bl_step hbw.out (below_regrown wr d os))))
      obtain ⟨y0, y1, y2, y3, y4⟩ := hk1.out wr hbl.out
      obtain ⟨z0, z1, z2⟩ := hk2.out wr hbl.out
      have r0 := cell_regrown y0
      have r1 := cell_regrown y1
      have r2 := cell_regrown y2
      have r3 := cell_regrown y3
      have r4 := cell_regrown y4
      have s0 := cell_regrown z0
      have s1 := cell_regrown z1
      have s2 := cell_regrown z2
      have hln := hWl.out k (Nat.le_refl _)
      clear hWs hWl hall hKp
      by_cases he : pr = R
      · rw [if_pos he, List.append_nil] at hA
        have hA := hid hA.out
        have heq : (pr != R) = false := by rw [he]; simp
        clear he hln
        clear y0 y1 y2 y3 y4 z0 z1 z2
        go_wp2_with fail
        refine wp_region_quiet_below (by kernel_rfl) (by kernel_rfl) ?_
        repeat (first | go_big_quiet_step (exact cA.out _ _) | quiet_step (exact cA.out _ _))
        refine wpQuiet_nil ?_
        intro _ hw'
        obtain ⟨⟨dq, osq⟩, hw''⟩ := hw'
        subst hw''
        have hwq := hid (below_regrown wr dq osq)
        have hO9 := hid (own_below hO.out hwq.out)
        rw [← hA.out] at hO9
        have G := hid (GJ.out _ _ _ hO9.out)
        clear cA r0 r1 r2 r3 r4 s0 s1 s2 hO hO9
        go_wp2_with (go_at_call 13; refine G.out.mono ?_; clear G; rintro e w3 ⟨rfl, hc3⟩; have hc3 := hid hc3)
        go_ret
        exact ⟨rfl, bl_step (bl_step hbw.out hwq.out) hc3.out⟩
      · rw [if_neg he] at hA
        have hA := hid hA.out
        have heq : (pr != R) = true := bne_iff_ne.2 he
        clear he
        clear y0 y1 y2 y3 y4 z0 z1 z2
        go_wp2_with fail
        refine wp_region_quiet_below (by kernel_rfl) (by kernel_rfl) ?_
        repeat (first | go_big_quiet_step (exact cA.out _ _) | quiet_step (exact cA.out _ _))
        refine wpQuiet_nil ?_
        intro _ hw'
        obtain ⟨⟨dq, osq⟩, hw''⟩ := hw'
        subst hw''
        have hwq := hid (below_regrown wr dq osq)
        have hO9 := hid (own_below hO.out hwq.out)
        have hW9 := hid (bl_step hbl.out hwq.out)
        obtain ⟨y0, y1, y2, y3, y4⟩ := hk1.out _ hW9.out
        obtain ⟨z0, z1, z2⟩ := hk2.out _ hW9.out
        have G := hid (GN.out pr hpp _ (bl_step hbw.out hwq.out))
        generalize grow (redrawn wr dq) osq = wq at *
        clear cA r0 r1 r2 r3 r4 s0 s1 s2 hO
        go_wp2_with (first
          | (go_at_call 35; refine G.out.mono ?_; clear G; rintro e w3 ⟨rfl, hc3⟩; have hO3 := hid (own_below (own_below hO9.out hc3) (al' w3 (.cells #[.string (strT [37]), .string (strT (g.name pr))] 9))); have hD3 := hid (txt_two w3 [37] (g.name pr)); have hb3 := hid (bl_step (bl_step hW9.out hc3) (al' w3 (.cells #[.string (strT [37]), .string (strT (g.name pr))] 9))); clear hO9)
          | (at_builtin; refine wp_appT _ rfl _ _ rfl W.heap.size (WL k) [[37], g.name pr] _ _ rfl rfl hO3.out hD3.out (by simp; omega) hb3.out.size ?_; intro v4 w4 hO4 hb4; have hb5 := hid (hb3.out.trans hb4); clear hb4; rw [← hA.out] at hO4; have GG := hid (GJ.out _ _ _ hO4); obtain ⟨q1, q2, e4⟩ := own_shape hO4; subst e4; clear hO4)
          | (go_at_call 13; refine GG.out.mono ?_; clear GG; rintro e w5 ⟨rfl, hc5⟩; have hc5 := hid (bl_step hb5.out hc5)))
        go_ret
        exact ⟨rfl, bl_step hB.out hc5.out⟩

end Go.Proofs.YtcledgljbmepaaaGreatDoor
namespace Go.Proofs.YtcledgljbmepaaaGreatDoor
open Go.RowKit Go.Maps Go.Sort

def altsK (g : Gm) (left : Int) (k : Nat) : List Txt := ((g.prods.take k).filter fun p => decide (p.left = left)).map (altT g)
theorem altsK_succ (g : Gm) (left : Int) {k : Nat} (hk : k < g.prods.length) : altsK g left (k + 1) = altsK g left k ++ (if g.prods[k].left = left then [altT g g.prods[k]] else []) := by
  unfold altsK
  rw [List.take_add_one, List.getElem?_eq_getElem hk, Option.toList_some, List.filter_append, List.map_append]
  by_cases h : g.prods[k].left = left
  · rw [if_pos h, List.filter_cons_of_pos (by rw [decide_eq_true_eq]; exact h)]
    rfl
  · rw [if_neg h, List.filter_cons_of_neg (by rw [decide_eq_true_eq]; exact h)]
    rfl
theorem altsK_len {g : Gm} (h : ReadG g) (left : Int) (k : Nat) : (altsK g left k).length ≤ 40 ∧ ∀ t ∈ altsK g left k, t.length ≤ 170 := by
  unfold altsK
  refine ⟨?_, fun t ht => ?_⟩
  · rw [List.length_map]
    refine Nat.le_trans (List.length_filter_le _ _) ?_
    rw [List.length_take]
    have := h.prods
    omega
  · rw [List.mem_map] at ht
    obtain ⟨p, hp, rfl⟩ := ht
    have hp := List.mem_of_mem_take (List.mem_filter.1 hp).1
    exact altT_len h (h.snd.prods p hp).2.2.2.2.1
theorem ReadG.all_le {g : Gm} (h : ReadG g) : (g.all : Int) ≤ 32 ∧ g.terms ≤ 16 := by
  have h1 : g.terms ≤ g.rules.length := trmK_le _ _
  have h2 := h.rules
  have h3 := h.nonts
  unfold Gm.all
  omega
set_option maxRecDepth 20000 in
set_option maxHeartbeats 8000000 in
theorem alternativesC (g : Gm) (left : Int) (rv nv lv pv : Value) (w : World) (hV : GmV w rv nv lv pv g) (hr : ReadG g) :
    Calls Tryz.prog 36 #[gmA rv nv lv pv g.start, .int .i64 left] w fun e w' => ∃ v, e = .returned v ∧ (∃ B, OwnT w' B v (altsK g left g.prods.length)) ∧ Below w.heap.size w w' := by
  have hpb := hr.prods
  obtain ⟨ra, rc, rfl⟩ := hV.rules.shape
  obtain ⟨na, nc, rfl⟩ := hV.nonts.shape
  obtain ⟨la, lc, rfl⟩ := hV.levels.shape
  obtain ⟨pa, pc, rfl⟩ := hV.prods.shape
  have hB1 := al' w (.cells #[.slice ra g.rules.length rc, .slice na g.nonts.length nc, .slice la g.levels.length lc, .slice pa g.prods.length pc, .int .i64 g.start] 28)
  have k1 := heap_new w (.cells #[.slice ra g.rules.length rc, .slice na g.nonts.length nc, .slice la g.levels.length lc, .slice pa g.prods.length pc, .int .i64 g.start] 28)
  obtain ⟨W, hW⟩ : ∃ x, w.alloc (.cells #[.slice ra g.rules.length rc, .slice na g.nonts.length nc, .slice la g.levels.length lc, .slice pa g.prods.length pc, .int .i64 g.start] 28) = x := ⟨_, rfl⟩
  rw [hW] at hB1 k1
  have hk1 := hid (fun u (hu : Below W.heap.size W u) => cells5m (hs_keep k1 hu))
  have hB := hid hB1
  have hKp : Hid (∀ u, Below w.heap.size w u → ∀ k (hk : k < g.prods.length), ∃ b o q1 q3, pa = some ⟨b, o, none⟩ ∧ u.cell? ⟨b, o + k * 3, none⟩ = some (.int .i64 g.prods[k].left) ∧ u.cell? ⟨b, o + k * 3 + 1, none⟩ = some (.slice q1 g.prods[k].right.length q3) ∧ u.cell? ⟨b, o + k * 3 + 2, none⟩ = some (.int .i64 g.prods[k].prec) ∧ Nums u (.slice q1 g.prods[k].right.length q3) g.prods[k].right) := hid (fun u hu k hk => by
    obtain ⟨b, o, e, -, hx⟩ := (hV.keep hu).prods.at hk
    obtain ⟨v, x0, x1, x2, hN⟩ := hx
    obtain ⟨q1, q3, rfl⟩ := shapeN hN
    exact ⟨b, o, q1, q3, e, x0, x1, x2, hN⟩)
  have GA := hid (fun (p : Pd) (hp : p ∈ g.prods) (v : Value) u (hu : Below w.heap.size w u) (hv : Nums u v p.right) => alternativeC g p _ _ _ _ v u (hV.keep hu) hr hv (hr.snd.prods p hp).2.2.2.2.1 (fun k hk => by have := ((hr.snd.prods p hp).2.2.2.2.2 k hk).2; have := hr.all_le.1; omega) (by have := (hr.snd.prods p hp).2.2.2.1; have := hr.all_le.2; omega))
  have hsc := hid (fun k (hk : k < g.prods.length) => altsK_succ g left hk)
  have hln := hid (fun k => (altsK_len hr left k).1)
  have hO0 : Hid (OwnT W W.heap.size (.slice none 0 0) (altsK g left 0)) := hid (World.ownsRow_nil _ _ _ _)
  clear hV hr hB1 k1
  obtain ⟨n, hn⟩ : ∃ n, Hid (g.prods.length = n) := ⟨_, hid rfl⟩
  rw [hn.out] at hpb hk1 GA hW ⊢
  generalize altsK g left = F at *
  generalize g.rules.length = rn at *
  generalize g.nonts.length = nn at *
  generalize g.levels.length = ll at *
  generalize g.start = st at *
  go_enter Tryz.func36, Tryz.ntmps36
  obtain ⟨y0, y1, y2, y3, y4⟩ := hk1.out W (Below.refl _ _)
  go_wp2
  clear hW y0 y1 y2 y3 y4
  go_loopw [5, 11] (fun v i wr => ∃ k : Nat, k ≤ n ∧ i = .int .i64 (k : Int) ∧ Hid (OwnT wr W.heap.size v (F k)) ∧ Hid (Below W.heap.size W wr)) (fun _ i _ => n - (intOf i).toNat)
  case atStart => exact ⟨0, Nat.zero_le _, rfl, hO0, hid (Below.refl _ _)⟩
  case round =>
    obtain ⟨k, hk, rfl, hO, hbl⟩ := hrel
    have hbw := hid (bl_step hB.out hbl.out)
    by_cases hlt : k < n
    · have hltz : (k : Int) < (n : Int) := by omega
      have hkl : k < g.prods.length := by rw [hn.out]; exact hlt
      obtain ⟨b, o, q1, q3, e, x0, x1, x2, hN⟩ := hKp.out wr hbw.out k hkl
      subst e
      have hs := hsc.out k hkl
      have hl9 := hln.out k
      have hal := al' wr (.cells #[.int .i64 g.prods[k].left, .slice q1 g.prods[k].right.length q3, .int .i64 g.prods[k].prec] 39)
      have hb1 := hid (bl_step hbl.out hal)
      obtain ⟨u0, u1, u2⟩ := cells3q (heap_new wr (.cells #[.int .i64 g.prods[k].left, .slice q1 g.prods[k].right.length q3, .int .i64 g.prods[k].prec] 39))
      have G := hid (GA.out g.prods[k] (List.getElem_mem hkl) _ _ (bl_step hbw.out hal) (hN.keep hal))
      obtain ⟨y0, y1, y2, y3, y4⟩ := hk1.out _ hb1.out
      have hO1 := hid (own_below hO.out hal)
      obtain ⟨W3, hW3⟩ : ∃ x, wr.alloc (.cells #[.int .i64 g.prods[k].left, .slice q1 g.prods[k].right.length q3, .int .i64 g.prods[k].prec] 39) = x := ⟨_, rfl⟩
      rw [hW3] at hb1 u0 u1 u2 G y0 y1 y2 y3 y4 hO1
      clear hal hN hO
      generalize altT g g.prods[k] = AT at *
      generalize g.prods[k].right.length = rl at *
      generalize g.prods[k].left = xl at *
      generalize g.prods[k].prec = xp at *
      by_cases he : xl = left
      · rw [if_pos he] at hs
        have hs := hid hs
        have heq : (xl == left) = true := by simpa using he
        have hap := hid (fun u (hu : Below W3.heap.size W3 u) => app1T (own_below hO1.out hu) AT (by omega) (Nat.le_trans hb1.out.size hu.size))
        clear he hl9 hO1
        generalize (F k).length = m at *
        go_wp2_with (first
          | (go_at_call 57; refine G.out.mono ?_; clear G; rintro e w3 ⟨rfl, hc3⟩; obtain ⟨a', c', w', hrun, hO', hb'⟩ := hap.out w3 hc3; have hO9 := hid hO'; have hb9 := hid ((bl_step hb1.out hc3).trans hb'); clear hO' hb' hap)
          | (at_builtin; refine wp_run _ rfl _ _ _ rfl _ _ rfl rfl hrun ?_; clear hrun))
        go_roundw
        case rel => exact ⟨k + 1, by omega, by go_num, hid (by rw [hs.out]; exact hO9.out), hb9⟩
        case measure => simp [intOf]; omega
      · rw [if_neg he, List.append_nil] at hs
        have hO9 := hid hO1.out
        rw [← hs] at hO9
        have heq : (xl == left) = false := by simpa using he
        clear he hs hl9 hO1 G
        go_wp2
        go_roundw
        case rel => exact ⟨k + 1, by omega, by go_num, hO9, hb1⟩
        case measure => simp [intOf]; omega
    · have hltz : ¬ (k : Int) < (n : Int) := by omega
      obtain rfl : k = n := by omega
      have hO9 := hO
      go_wp2
      go_ret
      exact ⟨_, rfl, ⟨_, hO9.out⟩, bl_step hB.out hbl.out⟩

end Go.Proofs.YtcledgljbmepaaaGreatDoor
namespace Go.Proofs.YtcledgljbmepaaaGreatDoor
open Go.RowKit Go.Maps Go.Sort

def pwT (g : Gm) (k : Nat) : List Txt := if ofPk g (k : Int) g.levels.length = [] then [] else [levT g (ofPk g (k : Int) g.levels.length)]
def stL (g : Gm) : List Txt := if g.start = 0 then [] else [[115, 116, 97, 114, 116, 32] ++ g.name g.start ++ [59]]
def ntT (g : Gm) (k : Nat) : Txt := g.nonts.getD k [] ++ [58, 32] ++ Lib.join (altsK g ((g.terms : Int) + 1 + (k : Int)) g.prods.length) [32, 124, 32] ++ [59]
noncomputable def ln1 (g : Gm) (k : Nat) : List Txt := (g.rules.take k).map rlT
noncomputable def ln2 (g : Gm) : Nat → List Txt
  | 0 => ln1 g g.rules.length
  | 1 => ln1 g g.rules.length
  | k + 2 => ln2 g (k + 1) ++ pwT g (k + 1)
noncomputable def ln3 (g : Gm) : Nat → List Txt
  | 0 => ln2 g g.levels.length ++ stL g
  | k + 1 => ln3 g k ++ [ntT g k]
noncomputable def lnsT (g : Gm) : List Txt := ln3 g g.nonts.length
noncomputable def shwT (g : Gm) : Txt := Lib.join (lnsT g) [10]
theorem ln1_succ (g : Gm) {k : Nat} (hk : k < g.rules.length) : ln1 g (k + 1) = ln1 g k ++ [rlT g.rules[k]] := by
  unfold ln1
  rw [List.take_add_one, List.getElem?_eq_getElem hk, Option.toList_some, List.map_append]
  rfl
theorem ln2_succ (g : Gm) {k : Nat} (hk : 1 ≤ k) : ln2 g (k + 1) = ln2 g k ++ pwT g k := by
  cases k with
  | zero => cases hk
  | succ k => rw [ln2]
/-- how many, and how long -/
def LnB (n : Nat) (l : List Txt) : Prop := l.length ≤ n ∧ ∀ t ∈ l, t.length ≤ 200000
theorem LnB.app {n m : Nat} {l l' : List Txt} (h : LnB n l) (h' : LnB m l') : LnB (n + m) (l ++ l') := ⟨by rw [List.length_append]; have := h.1; have := h'.1; omega, fun t ht => by
  rcases List.mem_append.1 ht with ht | ht
  · exact h.2 t ht
  · exact h'.2 t ht⟩
theorem LnB.one {t : Txt} (h : t.length ≤ 200000) : LnB 1 [t] := ⟨Nat.le_refl _, fun u hu => by rw [List.mem_singleton] at hu; subst hu; exact h⟩
theorem LnB.nil (n : Nat) : LnB n [] := ⟨Nat.zero_le _, fun _ h => absurd h List.not_mem_nil⟩
theorem LnB.mono {n m : Nat} {l : List Txt} (h : LnB n l) (hn : n ≤ m) : LnB m l := ⟨Nat.le_trans h.1 hn, h.2⟩
theorem ln1_b {g : Gm} (h : ReadG g) (k : Nat) : LnB 16 (ln1 g k) := by
  unfold ln1
  refine ⟨by rw [List.length_map, List.length_take]; have := h.rules; omega, fun t ht => ?_⟩
  rw [List.mem_map] at ht
  obtain ⟨r, hr, rfl⟩ := ht
  have hr := List.mem_of_mem_take hr
  exact rlT_len (h.rname r hr) (h.re r hr).1
theorem lev_le {g : Gm} (h : ReadG g) : g.levels.length ≤ 17 := by
  rw [h.snd.levels]
  have := h.all_le.2
  omega
theorem pwT_b {g : Gm} (h : ReadG g) (k : Nat) : LnB 1 (pwT g k) := by
  unfold pwT
  split
  · exact LnB.nil _
  · have h1 := ofPk_len g (k : Int) g.levels.length
    have h2 := lev_le h
    have := levT_len h (ts := ofPk g (k : Int) g.levels.length) (by omega)
    exact LnB.one (by omega)
theorem ln2_b {g : Gm} (h : ReadG g) : ∀ k, LnB (16 + k) (ln2 g k)
  | 0 => (ln1_b h _).mono (by omega)
  | 1 => (ln1_b h _).mono (by omega)
  | k + 2 => by
    rw [ln2]
    exact ((ln2_b h (k + 1)).app (pwT_b h (k + 1))).mono (by omega)
theorem ntT_len {g : Gm} (h : ReadG g) {k : Nat} (hk : k < g.nonts.length) : (ntT g k).length ≤ 7000 ∧ (Lib.join (altsK g ((g.terms : Int) + 1 + (k : Int)) g.prods.length) [32, 124, 32]).length ≤ 6920 := by
  obtain ⟨h1, h2⟩ := altsK_len h ((g.terms : Int) + 1 + (k : Int)) g.prods.length
  have h3 := join_len (sep := [32, 124, 32]) h2
  have h4 : (g.nonts.getD k []).length ≤ 16 := by
    rw [List.getD_eq_getElem?_getD, List.getElem?_eq_getElem hk]
    exact h.nname _ (List.getElem_mem hk)
  simp only [List.length_cons, List.length_nil] at h3
  unfold ntT
  simp only [List.length_append, List.length_cons, List.length_nil]
  omega
theorem stL_b {g : Gm} (h : ReadG g) : LnB 1 (stL g) := by
  unfold stL
  split
  · exact LnB.nil _
  · have := name_len16 h g.start
    exact LnB.one (by simp only [List.length_append, List.length_cons, List.length_nil]; omega)
theorem ln3_b {g : Gm} (h : ReadG g) : ∀ k, k ≤ g.nonts.length → LnB (40 + k) (ln3 g k)
  | 0, _ => by
    rw [ln3]
    have := lev_le h
    exact ((ln2_b h _).app (stL_b h)).mono (by omega)
  | k + 1, hk => by
    rw [ln3]
    exact ((ln3_b h k (by omega)).app (LnB.one (by have := (ntT_len h (k := k) (by omega)).1; omega))).mono (by omega)
theorem shwT_len {g : Gm} (h : ReadG g) : (lnsT g).length ≤ 60 ∧ (shwT g).length ≤ 20000000 := by
  have h1 := ln3_b h g.nonts.length (Nat.le_refl _)
  have h2 := h.nonts
  have h3 : (lnsT g).length ≤ 60 := by have := h1.1; unfold lnsT; omega
  refine ⟨h3, ?_⟩
  have h4 := join_len (sep := [10]) h1.2
  unfold shwT lnsT
  unfold lnsT at h3
  simp only [List.length_singleton] at h4
  omega

end Go.Proofs.YtcledgljbmepaaaGreatDoor
namespace Go.Proofs.YtcledgljbmepaaaGreatDoor
open Go.RowKit Go.Maps Go.Sort

/-- the rest of lines, from its third loop on, as one fact would ask it -/
theorem wrap3 {t k : Nat} (ht : t ≤ 1000) (hk : k ≤ 1000) : IntKind.i64.wrap (IntKind.i64.wrap ((t : Int) + 1) + (k : Int)) = (t : Int) + 1 + (k : Int) := by
  have h1 : IntKind.i64.wrap ((t : Int) + 1) = (t : Int) + 1 := by rw [IntKind.wrap_i64]; omega
  rw [h1, IntKind.wrap_i64]
  omega
set_option maxRecDepth 20000 in
set_option maxHeartbeats 16000000 in
theorem linesC (g : Gm) (rv nv lv pv : Value) (w : World) (hV : GmV w rv nv lv pv g) (hr : ReadG g) (hT : Tab w) :
    Calls Tryz.prog 14 #[gmA rv nv lv pv g.start] w fun e w' => ∃ v, e = .returned v ∧ (∃ B, OwnT w' B v (lnsT g)) ∧ Below w.heap.size w w' := by
  have hbn := hr.bnd
  have b1 := hr.rules
  have b2 := hr.nonts
  have b3 := lev_le hr
  have b4 := hr.all_le.2
  have hst : g.start ≤ 9223372036854775807 := by have := hr.st; have := hr.all_le.1; omega
  have b5 : 1 ≤ g.levels.length := by rw [hr.snd.levels]; omega
  obtain ⟨ra, rc, rfl⟩ := hV.rules.shape
  obtain ⟨na, nc, rfl⟩ := hV.nonts.shape
  obtain ⟨la, lc, rfl⟩ := hV.levels.shape
  obtain ⟨pa, pc, rfl⟩ := hV.prods.shape
  have hB1 := al' w (.cells #[.slice ra g.rules.length rc, .slice na g.nonts.length nc, .slice la g.levels.length lc, .slice pa g.prods.length pc, .int .i64 g.start] 28)
  have k1 := heap_new w (.cells #[.slice ra g.rules.length rc, .slice na g.nonts.length nc, .slice la g.levels.length lc, .slice pa g.prods.length pc, .int .i64 g.start] 28)
  obtain ⟨W, hW⟩ : ∃ x, w.alloc (.cells #[.slice ra g.rules.length rc, .slice na g.nonts.length nc, .slice la g.levels.length lc, .slice pa g.prods.length pc, .int .i64 g.start] 28) = x := ⟨_, rfl⟩
  rw [hW] at hB1 k1
  have hk1 := hid (fun u (hu : Below W.heap.size W u) => cells5m (hs_keep k1 hu))
  have hB := hid hB1
  have hKr : Hid (∀ u, Below w.heap.size w u → ∀ k (hk : k < g.rules.length), ∃ b o q1 q3, ra = some ⟨b, o, none⟩ ∧ u.cell? ⟨b, o + k * 3, none⟩ = some (.string (strT g.rules[k].name)) ∧ u.cell? ⟨b, o + k * 3 + 1, none⟩ = some (.slice q1 g.rules[k].re.length q3) ∧ u.cell? ⟨b, o + k * 3 + 2, none⟩ = some (.bool g.rules[k].skip) ∧ Cels u (.slice q1 g.rules[k].re.length q3) g.rules[k].re) := hid (fun u hu k hk => by
    obtain ⟨b, o, e, -, hx⟩ := (hV.keep hu).rules.at hk
    obtain ⟨v, x0, x1, x2, hN⟩ := hx
    obtain ⟨q1, q3, rfl⟩ := shapeC hN
    exact ⟨b, o, q1, q3, e, x0, x1, x2, hN⟩)
  have hKn : Hid (∀ u, Below w.heap.size w u → ∀ k (hk : k < g.nonts.length), ∃ b o, na = some ⟨b, o, none⟩ ∧ u.cell? ⟨b, o + k, none⟩ = some (.string (strT (g.nonts.getD k [])))) := hid (fun u hu k hk => by
    obtain ⟨b, o, e, -, hx⟩ := (hV.keep hu).nonts.at hk
    have hx : u.cell? ⟨b, o + k * 1, none⟩ = some (.string (strT g.nonts[k])) := hx
    rw [Nat.mul_one] at hx
    exact ⟨b, o, e, by rw [hx, List.getD_eq_getElem?_getD, List.getElem?_eq_getElem hk]; rfl⟩)
  have GR := hid (fun k (hk : k < g.rules.length) (v : Value) u (hu : Below w.heap.size w u) (hv : Cels u v g.rules[k].re) => ruleLineC g.rules[k] v u hv (hr.re _ (List.getElem_mem hk)).1 (hT.keep hu) (hr.rname _ (List.getElem_mem hk)))
  have GO := hid (fun (k : Nat) u (hu : Below w.heap.size w u) => ofPowerC g (k : Int) _ _ _ _ u (hV.keep hu) (by omega) b5)
  have GV := hid (fun (k : Nat) (v : Value) u (hu : Below w.heap.size w u) (hv : Nums u v (ofPk g (k : Int) g.levels.length)) (h0 : 0 < (ofPk g (k : Int) g.levels.length).length) => levelLineC g _ _ _ _ v _ u (hV.keep hu) hr hv h0 (by have := ofPk_len g (k : Int) g.levels.length; omega) (fun t ht => ofPk_mem ht))
  have GN := hid (fun u (hu : Below w.heap.size w u) => gnameC g g.start _ _ _ _ u (hV.keep hu) hst (by omega) (by omega))
  have GT := hid (fun u (hu : Below w.heap.size w u) => termsG g _ _ _ _ u (hV.keep hu) (by omega))
  have GA := hid (fun (k : Nat) u (hu : Below w.heap.size w u) => alternativesC g ((g.terms : Int) + 1 + (k : Int)) _ _ _ _ u (hV.keep hu) hr)
  have GJ := hid (fun (k : Nat) (hk : k < g.nonts.length) u B v (h : OwnT u B v (altsK g ((g.terms : Int) + 1 + (k : Int)) g.prods.length)) => joinC h [32, 124, 32] (by have := (altsK_len hr ((g.terms : Int) + 1 + (k : Int)) g.prods.length).1; omega) (by have := (ntT_len hr hk).2; omega))
  have s1 := hid (fun k (hk : k < g.rules.length) => ln1_succ g hk)
  have s2 : Hid (∀ k, 1 ≤ k → ln2 g (k + 1) = ln2 g k ++ (if ofPk g (k : Int) g.levels.length = [] then [] else [levT g (ofPk g (k : Int) g.levels.length)])) := hid (fun k hk => ln2_succ g hk)
  have s3 : Hid (∀ k, ln3 g (k + 1) = ln3 g k ++ [ntT g k]) := hid (fun k => by rw [ln3])
  have e2 : Hid (ln2 g 1 = ln1 g g.rules.length) := hid (by rw [ln2])
  have e3 : Hid (ln3 g 0 = ln2 g g.levels.length ++ stL g) := hid (by rw [ln3])
  have c1 := hid (fun k => (ln1_b hr k).1)
  have c2 := hid (fun k => (ln2_b hr k).1)
  have c3 := hid (fun k (hk : k ≤ g.nonts.length) => (ln3_b hr k hk).1)
  have nt3 : Hid (∀ k, k < g.nonts.length → strT (ntT g k) = strT (g.nonts.getD k []) ++ ⟨#[58, 32]⟩ ++ strT (Lib.join (altsK g ((g.terms : Int) + 1 + (k : Int)) g.prods.length) [32, 124, 32]) ++ ⟨#[59]⟩ ∧ (strT (g.nonts.getD k [])).size ≤ 16 ∧ (strT (Lib.join (altsK g ((g.terms : Int) + 1 + (k : Int)) g.prods.length) [32, 124, 32])).size ≤ 6920) := hid (fun k hk => ⟨by unfold ntT; rw [← strT_app, ← strT_app, ← strT_app]; rfl, by rw [strT_size, List.getD_eq_getElem?_getD, List.getElem?_eq_getElem hk]; exact hr.nname _ (List.getElem_mem hk), by rw [strT_size]; exact (ntT_len hr hk).2⟩)
  have sn3 : Hid ((strT (g.name g.start)).size ≤ 16) := hid (by rw [strT_size]; exact name_len16 hr _)
  have st3 : Hid (stL g = if g.start = 0 then [] else [[115, 116, 97, 114, 116, 32] ++ g.name g.start ++ [59]]) := hid rfl
  rw [st3.out] at e3
  have sx3 : Hid (strT ([115, 116, 97, 114, 116, 32] ++ g.name g.start ++ [59]) = ⟨#[115, 116, 97, 114, 116, 32]⟩ ++ strT (g.name g.start) ++ ⟨#[59]⟩) := hid (by rw [← strT_app, ← strT_app]; rfl)
  have hO0 : Hid (OwnT W W.heap.size (.slice none 0 0) (ln1 g 0)) := hid (World.ownsRow_nil _ _ _ _)
  have hend : Hid (lnsT g = ln3 g g.nonts.length) := hid rfl
  have e3j : strT [32, 124, 32] = ⟨#[32, 124, 32]⟩ := rfl
  rw [e3j] at GJ
  rw [hend.out]
  clear hV hr hT hbn hB1 k1 st3 hend e3j
  obtain ⟨OP, hOP⟩ : ∃ F : Nat → List Int, ∀ k : Nat, ofPk g (k : Int) g.levels.length = F k := ⟨_, fun _ => rfl⟩
  obtain ⟨AL, hAL⟩ : ∃ F : Nat → List Txt, ∀ k : Nat, altsK g ((g.terms : Int) + 1 + (k : Int)) g.prods.length = F k := ⟨_, fun _ => rfl⟩
  simp only [hOP] at GO GV s2
  simp only [hAL] at GA GJ nt3
  clear hOP hAL
  obtain ⟨rn, hrn⟩ : ∃ n, Hid (g.rules.length = n) := ⟨_, hid rfl⟩
  obtain ⟨nn, hnn⟩ : ∃ n, Hid (g.nonts.length = n) := ⟨_, hid rfl⟩
  rw [hrn.out] at b1 hk1 GO GV GN GT GA hW e2 ⊢
  rw [hnn.out] at b2 hk1 GO GV GN GT GA hW c3 nt3 GJ hKn ⊢
  generalize strT (g.name g.start) = SN at *
  generalize ln1 g = F1 at *
  generalize ln2 g = F2 at *
  generalize ln3 g = F3 at *
  generalize g.levels.length = ll at *
  generalize g.prods.length = pp at *
  generalize g.start = st at *
  generalize g.terms = tm at *
  go_enter Tryz.func14, Tryz.ntmps14
  obtain ⟨y0, y1, y2, y3, y4⟩ := hk1.out W (Below.refl _ _)
  go_wp2
  clear hW y0 y1 y2 y3 y4
  go_loopw [3, 13] (fun v i wr => ∃ k : Nat, k ≤ rn ∧ i = .int .i64 (k : Int) ∧ Hid (OwnT wr W.heap.size v (F1 k)) ∧ Hid (Below W.heap.size W wr)) (fun _ i _ => rn - (intOf i).toNat)
  case atStart => exact ⟨0, Nat.zero_le _, rfl, hO0, hid (Below.refl _ _)⟩
  case round =>
    obtain ⟨k, hk, rfl, hO, hbl⟩ := hrel
    have hbw := hid (bl_step hB.out hbl.out)
    by_cases hlt : k < rn
    · have hltz : (k : Int) < (rn : Int) := by omega
      have hkl : k < g.rules.length := by rw [hrn.out]; exact hlt
      obtain ⟨b, o, q1, q3, e, x0, x1, x2, hN⟩ := hKr.out wr hbw.out k hkl
      subst e
      have hs := hid (s1.out k hkl)
      have hl9 := c1.out k
      have hal := al' wr (.cells #[.string (strT g.rules[k].name), .slice q1 g.rules[k].re.length q3, .bool g.rules[k].skip] 68)
      have hb1 := hid (bl_step hbl.out hal)
      obtain ⟨u0, u1, u2⟩ := cells3q (heap_new wr (.cells #[.string (strT g.rules[k].name), .slice q1 g.rules[k].re.length q3, .bool g.rules[k].skip] 68))
      have G := hid (GR.out k hkl _ _ (bl_step hbw.out hal) (hN.keep hal))
      have hO1 := hid (own_below hO.out hal)
      obtain ⟨W3, hW3⟩ : ∃ x, wr.alloc (.cells #[.string (strT g.rules[k].name), .slice q1 g.rules[k].re.length q3, .bool g.rules[k].skip] 68) = x := ⟨_, rfl⟩
      rw [hW3] at hb1 u0 u1 u2 G hO1
      clear hal hN hO GO GV GN GT GA GJ
      generalize rlT g.rules[k] = AT at *
      generalize g.rules[k].re.length = rl at *
      generalize strT g.rules[k].name = xl at *
      generalize g.rules[k].skip = xp at *
      have hap := hid (fun u (hu : Below W3.heap.size W3 u) => app1T (own_below hO1.out hu) AT (by omega) (Nat.le_trans hb1.out.size hu.size))
      clear hl9 hO1
      generalize (F1 k).length = m at *
      go_wp2_with (first
        | (go_at_call 32; refine G.out.mono ?_; clear G; rintro e w3 ⟨rfl, hc3⟩; obtain ⟨a', c', w', hrun, hO', hb'⟩ := hap.out w3 hc3; have hO9 := hid hO'; have hb9 := hid ((bl_step hb1.out hc3).trans hb'); clear hO' hb' hap)
        | (at_builtin; refine wp_run _ rfl _ _ _ rfl _ _ rfl rfl hrun ?_; clear hrun))
      go_roundw
      case rel => exact ⟨k + 1, by omega, by go_num, hid (by rw [hs.out]; exact hO9.out), hb9⟩
      case measure => simp [intOf]; omega
    · have hltz : ¬ (k : Int) < (rn : Int) := by omega
      obtain rfl : k = rn := by omega
      have hO1 := hid hO.out
      rw [← e2.out] at hO1
      clear hO hbw GR hKr s1 c1 e2
      go_wp2
      clear hltz
      go_loopw [3, 6] (fun v i wr => ∃ k : Nat, 1 ≤ k ∧ k ≤ ll ∧ i = .int .i64 (k : Int) ∧ Hid (OwnT wr W.heap.size v (F2 k)) ∧ Hid (Below W.heap.size W wr)) (fun _ i _ => ll - (intOf i).toNat)
      case atStart => exact ⟨1, Nat.le_refl _, b5, rfl, hO1, hbl⟩
      case round =>
        clear hO1 hbl hlt hk
        rename_i wr1 _ _ _
        obtain ⟨k2, hk2, hk3, rfl, hO, hbl⟩ := hrel
        have hbw := hid (bl_step hB.out hbl.out)
        obtain ⟨y0, y1, y2, y3, y4⟩ := hk1.out _ hbl.out
        by_cases hlt : k2 < ll
        · have hltz : (k2 : Int) < (ll : Int) := by omega
          have hs := s2.out k2 hk2
          have hl9 := c2.out k2
          have G := hid (GO.out k2 _ hbw.out)
          clear GN GT GA GJ
          by_cases he : OP k2 = []
          · rw [if_pos he, List.append_nil] at hs
            have hO9 := hid hO.out
            rw [← hs] at hO9
            have hz : ¬ (0 : Int) < ((OP k2).length : Int) := by rw [he]; simp
            clear hs he hl9 GV hO
            generalize OP k2 = op at *
            go_wp2_with (go_at_call 33; refine G.out.mono ?_; clear G; rintro e w3 ⟨v7, rfl, ⟨B7, hO7⟩, hc3⟩; obtain ⟨a7, c7, e7⟩ := own_shape hO7; subst e7; clear hO7; have hO8 := hid (own_below hO9.out hc3); have hb9 := hid (bl_step hbl.out hc3); clear hO9)
            go_roundw
            case rel => exact ⟨k2 + 1, by omega, by omega, by go_num, hO8, hb9⟩
            case measure => simp [intOf]; omega
          · rw [if_neg he] at hs
            have hs := hid hs
            have hpos : 0 < (OP k2).length := List.length_pos_iff.2 he
            have hz : (0 : Int) < ((OP k2).length : Int) := by omega
            have G2 := hid (fun v u hu hv => GV.out k2 v u hu hv hpos)
            have hap := hid (fun u (hu : Below wr.heap.size wr u) => app1T (own_below hO.out hu) (levT g (OP k2)) (by omega) (Nat.le_trans hbl.out.size hu.size))
            clear he hl9 GV hO hpos
            generalize levT g (OP k2) = AT at *
            generalize (F2 k2).length = m at *
            go_wp2_with (first
              | (go_at_call 33; refine G.out.mono ?_; clear G; rintro e w3 ⟨v7, rfl, ⟨B7, hO7⟩, hc3⟩; obtain ⟨a7, c7, e7⟩ := own_shape hO7; subst e7; have hN7 := hid (Nums.of_row hO7); clear hO7; have hb7 := hid (bl_step hbl.out hc3); have hc7 := hid hc3; obtain ⟨y0, y1, y2, y3, y4⟩ := hk1.out _ hb7.out)
              | (go_at_call 34; refine (G2.out _ _ (bl_step hB.out hb7.out) hN7.out).mono ?_; clear G2 hN7; rintro e w4 ⟨rfl, hc4⟩; obtain ⟨a', c', w', hrun, hO', hb'⟩ := hap.out w4 (bl_step hc7.out hc4); have hO9 := hid hO'; have hb9 := hid ((bl_step hb7.out hc4).trans hb'); clear hO' hb' hap)
              | (at_builtin; refine wp_run _ rfl _ _ _ rfl _ _ rfl rfl hrun ?_; clear hrun))
            go_roundw
            case rel => exact ⟨k2 + 1, by omega, by omega, by go_num, hid (by rw [hs.out]; exact hO9.out), hb9⟩
            case measure => simp [intOf]; omega
        · have hltz : ¬ (k2 : Int) < (ll : Int) := by omega
          obtain rfl : k2 = ll := by omega
          have hl9 := c2.out k2
          clear GO GV s2 c2
          by_cases hz : st = 0
          · rw [if_pos hz, List.append_nil] at e3
            have hO1 := hid hO.out
            rw [← e3.out] at hO1
            have hzz : (st != 0) = false := by rw [hz]; simp
            clear hO e3 hl9 GN sx3 sn3
            go_wp2
            clear hltz hlt hk2 hk3
            go_loopw [3, 57] (fun v i wr => ∃ k : Nat, k ≤ nn ∧ i = .int .i64 (k : Int) ∧ Hid (OwnT wr W.heap.size v (F3 k)) ∧ Hid (Below W.heap.size W wr)) (fun _ i _ => nn - (intOf i).toNat)
            case atStart => exact ⟨0, Nat.zero_le _, rfl, hO1, hbl⟩
            case round =>
              clear hO1 hbl
              obtain ⟨k3, hk3, rfl, hO, hbl⟩ := hrel
              have hbw := hid (bl_step hB.out hbl.out)
              by_cases hlt : k3 < nn
              · have hltz : (k3 : Int) < (nn : Int) := by omega
                obtain ⟨b, o, e, x0⟩ := hKn.out _ hbw.out k3 hlt
                subst e
                obtain ⟨hnt, qs1, qs2⟩ := nt3.out k3 hlt
                have hs := hid (s3.out k3)
                have hl9 : Hid ((F3 k3).length ≤ 100000) := hid (by have := c3.out k3 hk3; omega)
                have hwr := wrap3 (t := tm) (k := k3) (by omega) (by omega)
                have hcur := hid (show Below W.heap.size W wr.drew from hbl.out.drew)
                have hOc := hid (own_below hO.out ((Below.refl _ wr).drew))
                obtain ⟨z0, z1, z2, z3, z4⟩ := hk1.out _ hcur.out
                have GA1 := hid (fun u hu => GA.out k3 u hu)
                have GJ1 := hid (fun u B v h => GJ.out k3 hlt u B v h)
                have hnt := hid hnt
                generalize strT (g.nonts.getD k3 []) = S at *
                generalize strT (Lib.join (AL k3) [32, 124, 32]) = J at *
                generalize AL k3 = al at *
                generalize ntT g k3 = NT at *
                have q1 : ¬ 9223372036854775807 < S.size + 2 := by omega
                have q2 : ¬ 9223372036854775807 < S.size + 2 + J.size := by omega
                have q3 : ¬ 9223372036854775807 < S.size + 2 + J.size + 1 := by omega
                clear qs1 qs2 GA GJ hO nt3 hbw
                have hltH := hid (⟨hlt, b2⟩ : k3 < nn ∧ nn ≤ 16)
                go_wp2_with fail
                clear hltz x0 hlt hk3 b1 b2 b3 b4 b5 hst
                try clear hzz
                try clear hz
                go_region_held3 (fun w' => w'.cell? ⟨w.heap.size, 0, none⟩ = some (.slice ra k rc) ∧ w'.cell? ⟨w.heap.size, 1, none⟩ = some (.slice (some ⟨b, o, none⟩) nn nc) ∧ w'.cell? ⟨w.heap.size, 2, none⟩ = some (.slice la k2 lc) ∧ w'.cell? ⟨w.heap.size, 3, none⟩ = some (.slice pa pp pc) ∧ w'.cell? ⟨w.heap.size, 4, none⟩ = some (.int .i64 st)) (go_keep) ((first
                  | (go_at_call 21; refine (GT.out _ (bl_step hB.out hcur.out)).mono ?_; rintro e w2 ⟨rfl, hc⟩; have hn := hid (bl_step hcur.out hc); have ho := hid (own_below hOc.out hc); clear hcur hOc z0 z1 z2 z3 z4; have hcur := hn; have hOc := ho; clear hn ho hc; obtain ⟨z0, z1, z2, z3, z4⟩ := hk1.out _ hcur.out)
                  | (go_at_call 36; refine (GA1.out _ (bl_step hB.out hcur.out)).mono ?_; rintro e w3 ⟨v7, rfl, ⟨B7, hO7⟩, hc⟩; obtain ⟨a7, c7, e7⟩ := own_shape hO7; subst e7; have hO7 := hid hO7; have hn := hid (bl_step hcur.out hc); have ho := hid (own_below hOc.out hc); clear hcur hOc z0 z1 z2 z3 z4; have hcur := hn; have hOc := ho; clear hn ho hc; obtain ⟨z0, z1, z2, z3, z4⟩ := hk1.out _ hcur.out)
                  | (go_at_call 13; refine (GJ1.out _ _ _ hO7.out).mono ?_; rintro e w4 ⟨rfl, hc⟩; have hn := hid (bl_step hcur.out hc); have hAp := app1T (own_below hOc.out hc) NT hl9.out hn.out.size; rw [hnt.out] at hAp; obtain ⟨a', c', w', hrun, hO', hb'⟩ := hAp; have hO9 := hid hO'; have hb9 := hid (hn.out.trans hb'); clear hcur hOc z0 z1 z2 z3 z4 hO' hb' hO7; have hcur := hn; clear hn hc; obtain ⟨z0, z1, z2, z3, z4⟩ := hk1.out _ hcur.out)
                  | (refine step_run (by rfl) (.tmp 62) (.tmp 75) 24 (by rfl) _ _ (by rfl) (by rfl) hrun ?_; clear hcur z0 z1 z2 z3 z4; have hcur := hb9; obtain ⟨z0, z1, z2, z3, z4⟩ := hk1.out _ hcur.out)))
                all_goals
                  obtain ⟨hq1, hq2⟩ := hltH.out
                  go_wp2
                  go_roundw
                  case rel => exact ⟨k3 + 1, by omega, by go_num, hid (by rw [hs.out]; exact hO9.out), hb9⟩
                  case measure => simp [intOf]; omega
              · have hltz : ¬ (k3 : Int) < (nn : Int) := by omega
                obtain rfl : k3 = nn := by omega
                have hO9 := hO
                go_wp2
                go_ret
                exact ⟨_, rfl, ⟨_, hO9.out⟩, bl_step hB.out hbl.out⟩
          · rw [if_neg hz] at e3
            have e3 := hid e3.out
            have hzz : (st != 0) = true := bne_iff_ne.2 hz
            have G := hid (GN.out _ hbw.out)
            have hap := hid (fun u (hu : Below wr.heap.size wr u) => app1T (own_below hO.out hu) ([115, 116, 97, 114, 116, 32] ++ g.name st ++ [59]) (by omega) (Nat.le_trans hbl.out.size hu.size))
            rw [sx3.out, ← e3.out] at hap
            have qs := sn3.out
            have q1 : ¬ 9223372036854775807 < 6 + SN.size := by omega
            have q2 : ¬ 9223372036854775807 < 6 + SN.size + 1 := by omega
            clear hO e3 hl9 GN sx3 sn3 hz qs
            generalize (F2 k2).length = m at *
            go_wp2_with (first
              | (go_at_call 35; refine G.out.mono ?_; clear G; rintro e w3 ⟨rfl, hc3⟩; obtain ⟨a', c', w', hrun, hO', hb'⟩ := hap.out w3 hc3; have hO1 := hid hO'; have hb1 := hid ((bl_step hbl.out hc3).trans hb'); obtain ⟨z0, z1, z2, z3, z4⟩ := hk1.out _ hb1.out; clear hO' hb' hap)
              | (at_builtin; refine wp_run _ rfl _ _ _ rfl _ _ rfl rfl hrun ?_; clear hrun))
            clear hltz hlt hk2 hk3 hbl hbw
            have hbl := hb1
            clear hb1
            go_loopw [3, 57] (fun v i wr => ∃ k : Nat, k ≤ nn ∧ i = .int .i64 (k : Int) ∧ Hid (OwnT wr W.heap.size v (F3 k)) ∧ Hid (Below W.heap.size W wr)) (fun _ i _ => nn - (intOf i).toNat)
            case atStart => exact ⟨0, Nat.zero_le _, rfl, hO1, hbl⟩
            case round =>
              clear hO1 hbl
              obtain ⟨k3, hk3, rfl, hO, hbl⟩ := hrel
              have hbw := hid (bl_step hB.out hbl.out)
              by_cases hlt : k3 < nn
              · have hltz : (k3 : Int) < (nn : Int) := by omega
                obtain ⟨b, o, e, x0⟩ := hKn.out _ hbw.out k3 hlt
                subst e
                obtain ⟨hnt, qs1, qs2⟩ := nt3.out k3 hlt
                have hs := hid (s3.out k3)
                have hl9 : Hid ((F3 k3).length ≤ 100000) := hid (by have := c3.out k3 hk3; omega)
                have hwr := wrap3 (t := tm) (k := k3) (by omega) (by omega)
                have hcur := hid (show Below W.heap.size W wr.drew from hbl.out.drew)
                have hOc := hid (own_below hO.out ((Below.refl _ wr).drew))
                obtain ⟨z0, z1, z2, z3, z4⟩ := hk1.out _ hcur.out
                have GA1 := hid (fun u hu => GA.out k3 u hu)
                have GJ1 := hid (fun u B v h => GJ.out k3 hlt u B v h)
                have hnt := hid hnt
                generalize strT (g.nonts.getD k3 []) = S at *
                generalize strT (Lib.join (AL k3) [32, 124, 32]) = J at *
                generalize AL k3 = al at *
                generalize ntT g k3 = NT at *
                have q1 : ¬ 9223372036854775807 < S.size + 2 := by omega
                have q2 : ¬ 9223372036854775807 < S.size + 2 + J.size := by omega
                have q3 : ¬ 9223372036854775807 < S.size + 2 + J.size + 1 := by omega
                clear qs1 qs2 GA GJ hO nt3 hbw
                have hltH := hid (⟨hlt, b2⟩ : k3 < nn ∧ nn ≤ 16)
                go_wp2_with fail
                clear hltz x0 hlt hk3 b1 b2 b3 b4 b5 hst
                try clear hzz
                try clear hz
                go_region_held3 (fun w' => w'.cell? ⟨w.heap.size, 0, none⟩ = some (.slice ra k rc) ∧ w'.cell? ⟨w.heap.size, 1, none⟩ = some (.slice (some ⟨b, o, none⟩) nn nc) ∧ w'.cell? ⟨w.heap.size, 2, none⟩ = some (.slice la k2 lc) ∧ w'.cell? ⟨w.heap.size, 3, none⟩ = some (.slice pa pp pc) ∧ w'.cell? ⟨w.heap.size, 4, none⟩ = some (.int .i64 st)) (go_keep) ((first
                  | (go_at_call 21; refine (GT.out _ (bl_step hB.out hcur.out)).mono ?_; rintro e w2 ⟨rfl, hc⟩; have hn := hid (bl_step hcur.out hc); have ho := hid (own_below hOc.out hc); clear hcur hOc z0 z1 z2 z3 z4; have hcur := hn; have hOc := ho; clear hn ho hc; obtain ⟨z0, z1, z2, z3, z4⟩ := hk1.out _ hcur.out)
                  | (go_at_call 36; refine (GA1.out _ (bl_step hB.out hcur.out)).mono ?_; rintro e w3 ⟨v7, rfl, ⟨B7, hO7⟩, hc⟩; obtain ⟨a7, c7, e7⟩ := own_shape hO7; subst e7; have hO7 := hid hO7; have hn := hid (bl_step hcur.out hc); have ho := hid (own_below hOc.out hc); clear hcur hOc z0 z1 z2 z3 z4; have hcur := hn; have hOc := ho; clear hn ho hc; obtain ⟨z0, z1, z2, z3, z4⟩ := hk1.out _ hcur.out)
                  | (go_at_call 13; refine (GJ1.out _ _ _ hO7.out).mono ?_; rintro e w4 ⟨rfl, hc⟩; have hn := hid (bl_step hcur.out hc); have hAp := app1T (own_below hOc.out hc) NT hl9.out hn.out.size; rw [hnt.out] at hAp; obtain ⟨a', c', w', hrun, hO', hb'⟩ := hAp; have hO9 := hid hO'; have hb9 := hid (hn.out.trans hb'); clear hcur hOc z0 z1 z2 z3 z4 hO' hb' hO7; have hcur := hn; clear hn hc; obtain ⟨z0, z1, z2, z3, z4⟩ := hk1.out _ hcur.out)
                  | (refine step_run (by rfl) (.tmp 62) (.tmp 75) 24 (by rfl) _ _ (by rfl) (by rfl) hrun ?_; clear hcur z0 z1 z2 z3 z4; have hcur := hb9; obtain ⟨z0, z1, z2, z3, z4⟩ := hk1.out _ hcur.out)))
                all_goals
                  obtain ⟨hq1, hq2⟩ := hltH.out
                  go_wp2
                  go_roundw
                  case rel => exact ⟨k3 + 1, by omega, by go_num, hid (by rw [hs.out]; exact hO9.out), hb9⟩
                  case measure => simp [intOf]; omega
              · have hltz : ¬ (k3 : Int) < (nn : Int) := by omega
                obtain rfl : k3 = nn := by omega
                have hO9 := hO
                go_wp2
                go_ret
                exact ⟨_, rfl, ⟨_, hO9.out⟩, bl_step hB.out hbl.out⟩

end Go.Proofs.YtcledgljbmepaaaGreatDoor
