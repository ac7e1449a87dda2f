/- LinesUpdates, of every list of numbers, text and edit: where lines begin behind it, or its refusal. -/
import Derived.Test.YtbemlnllhedbpaaUpdate
import Derived.Test.YtbemlnllhedbpaaJoinMath
import Derived.Deep.AppendLies
import Derived.Deep.RegionLaw
import Derived.Deep.DrawnRows
import Derived.Deep.Slices
namespace Go.Proofs.Ytbemlnllhedbpaa
open Go.ChangeShapes Go.WideShapes Go.ChangeAt Go.RowKit
open Go.ChangeMaps (open_string shut_string)
attribute [local go_sem ↓] Go.wp_at_zero Go.wp_at_succ

/-- a call at a step of a region that draws its order -/
theorem step_call {P : Program} {ops : Array Oper} {o : Oper} {a : Act} {w : World} {K : Act → World → Prop} {Q : Exit → Act → World → Prop} {E : Prop} (hgd : o.guard = none) (f : FuncId) (args : Array Value)
    (hrun : (execOp a.eval o).run P w = .ok (.enter f args) w) {R : Ending → World → Prop} (hc : Calls P f args w R) (h : ∀ e w', R e w' → ∃ v, e = .returned v ∧ K (a.put o.dst v) w') :
    if Region.wanted o (yielded ops a.tmps) = true then Oper.wp P o a w K Q else E := by
  have hw : Region.wanted o (yielded ops a.tmps) = true := by simp [Region.wanted, hgd]
  rw [if_pos hw]
  unfold Oper.wp
  rw [hrun, Oper.upon_enter]
  refine hc.mono fun e w' hr => ?_
  obtain ⟨v, rfl, hk⟩ := h e w' hr
  exact hk
theorem grow_cell {w u : World} {row : Option Nat} (h : w.grownBy u row) {b o : Nat} {v : Value} (hc : w.cell? ⟨b, o, none⟩ = some v) (hn : some b ≠ row) : u.cell? ⟨b, o, none⟩ = some v :=
  (World.cell?_of_block (a := ⟨b, o, none⟩) (h.block b (World.block_lt_of_cell? w ⟨b, o, none⟩ hc) hn)).trans hc
theorem upL_len (l : List Int) (s t : ByteArray) (a n : Int) : (upL l s t a n).length ≤ 4001 := by
  unfold upL
  split
  · have := st_len (appS s t a n)
    have := appS_small (s := s) (t := t) (a := a) (n := n)
    omega
  · exact Nat.zero_le _

set_option maxHeartbeats 1000000 in
theorem updatesWalk (l : List Int) (ao : Option Addr) (cap : Nat) (s t : ByteArray) (a n : Int) (w : World) (hs : s.size ≤ 9223372036854775807) (ht : t.size ≤ 9223372036854775807) (ha : a ≤ 9223372036854775807) (hl : l.length ≤ 9223372036854775807) (hN : Nums w (.slice ao l.length cap) l) :
    Calls Try.prog 6 #[.slice ao l.length cap, .string s, .agg #[.int .i64 a, .int .i64 n, .string t]] w fun e w' => e = .returned (.bool true) ∧ Below w.heap.size w w' := by
  have GW : Hid (∀ u, Calls Try.prog 8 #[] u fun e w' => e = .returned (.bool true) ∧ Below u.heap.size u w') := wakesC
  have GL := hid (fun u => longC s u hs)
  have B0 : Below w.heap.size w (w.alloc (.cells #[.int .i64 a, .int .i64 n, .string t] 38)) := (Below.refl _ _).alloc (Nat.le_refl _) _
  have H0 := hid hN
  clear hN
  by_cases h : 4000 < s.size
  · rw [decide_eq_true h] at GL
    go_enter Try.func6, Try.ntmps6
    go_wp2_with (first
      | (go_at_call 8; refine (GW.out _).mono ?_; rintro e w1 ⟨rfl, hb1⟩)
      | (go_at_call 9; refine (GL.out _).mono ?_; rintro e w2 ⟨rfl, hw2⟩; subst w2))
    go_ret
    exact ⟨rfl, bl_step B0 hb1⟩
  · rw [decide_eq_false h] at GL
    by_cases h2 : (5000 : Int) < t.size
    · go_enter Try.func6, Try.ntmps6
      go_wp2_with (first
        | (go_at_call 8; refine (GW.out _).mono ?_; rintro e w1 ⟨rfl, hb1⟩; have q2 : w1.cell? ⟨w.heap.size, 2, none⟩ = some (.string t) := ((hb1.cell (by (simp))).trans (by (simp))))
        | (go_at_call 9; refine (GL.out _).mono ?_; rintro e w2 ⟨rfl, hw2⟩; subst w2))
      go_ret
      exact ⟨rfl, bl_step B0 hb1⟩
    · by_cases h3 : (5000 : Int) < l.length
      · go_enter Try.func6, Try.ntmps6
        go_wp2_with (first
          | (go_at_call 8; refine (GW.out _).mono ?_; rintro e w1 ⟨rfl, hb1⟩; have q2 : w1.cell? ⟨w.heap.size, 2, none⟩ = some (.string t) := ((hb1.cell (by (simp))).trans (by (simp))))
          | (go_at_call 9; refine (GL.out _).mono ?_; rintro e w2 ⟨rfl, hw2⟩; subst w2))
        go_ret
        exact ⟨rfl, bl_step B0 hb1⟩
      · have hst := st_len s
        have hul := upL_len l s t a n
        have GU := hid (fun u v hv => updateC v l s t a n u (by omega) (by omega) ha hl hv)
        have GB : Hid (∀ u, Calls Try.prog 12 #[.string s] u fun e w' => ∃ v, e = .returned v ∧ Nums w' v (st s) ∧ Below u.heap.size u w') := fun u => refStartsC s u (by omega)
        have GS := hid (fun va vb u => same10 va vb l (st s) u hl (by omega))
        have GR := hid (fun u => refApply12 s t a n u (by omega) (by omega) ha)
        have HU : (l ≠ st s ∧ upE l s t a n = 10 ∧ upL l s t a n = []) ∨ (l = st s ∧ errNo s.size a n t.size ≠ 0 ∧ upE l s t a n = errNo s.size a n t.size ∧ upL l s t a n = []) ∨ (l = st s ∧ errNo s.size a n t.size = 0 ∧ upE l s t a n = 0 ∧ upL l s t a n = st (appS s t a n)) := by
          by_cases e1 : l = st s
          · have hE : upE l s t a n = errNo s.size a n t.size := if_pos e1
            by_cases e2 : errNo s.size a n t.size = 0
            · exact .inr (.inr ⟨e1, e2, by rw [hE, e2], by unfold upL; rw [hE, if_pos e2]⟩)
            · exact .inr (.inl ⟨e1, e2, hE, by unfold upL; rw [hE, if_neg e2]⟩)
          · have hE : upE l s t a n = 10 := if_neg e1
            exact .inl ⟨e1, hE, by unfold upL; rw [hE]; rfl⟩
        generalize upE l s t a n = UE at GU HU
        generalize upL l s t a n = UL at GU HU hul
        obtain ⟨i0, hi, hz0, hz1, hz2⟩ := info_parts Try.info3
        have h3' : l.length ≤ 5000 := by omega
        by_cases hl0 : l = []
        · subst hl0
          have hne : ([] : List Int) ≠ st s := fun e => by have := (stN_len s s.size).1; rw [show stN s s.size = st s from rfl, ← e] at this; exact Nat.lt_irrefl 0 this
          obtain ⟨rfl, rfl⟩ : UE = 10 ∧ UL = [] := by rcases HU with ⟨_, e⟩ | ⟨e, _⟩ | ⟨e, _⟩; exact e; exact absurd e hne; exact absurd e hne
          rw [decide_eq_false hne] at GS
          clear HU hne
          have NN : ∀ u : World, Nums u (.slice ao 0 cap) [] := fun u => Nums.nil ao cap
          simp only [List.length_nil] at *
          cases ao with
          | none =>
            go_enter Try.func6, Try.ntmps6
            go_wp2_with (first
              | (go_at_call 8; refine (GW.out _).mono ?_; rintro e w1 ⟨rfl, hb1⟩; have q0 : w1.cell? ⟨w.heap.size, 0, none⟩ = some (.int .i64 a) := ((hb1.cell (by (simp))).trans (by (simp))); have q1 : w1.cell? ⟨w.heap.size, 1, none⟩ = some (.int .i64 n) := ((hb1.cell (by (simp))).trans (by (simp))); have q2 : w1.cell? ⟨w.heap.size, 2, none⟩ = some (.string t) := ((hb1.cell (by (simp))).trans (by (simp))))
              | (go_at_call 9; refine (GL.out _).mono ?_; rintro e w2 ⟨rfl, hw2⟩; subst w2)
              | fail)
            have A0 : ∀ x, (w1.alloc x).cell? ⟨w.heap.size, 0, none⟩ = some (.int .i64 a) := fun x => by simp [World.cell?_alloc_some, q0]
            have A1 : ∀ x, (w1.alloc x).cell? ⟨w.heap.size, 1, none⟩ = some (.int .i64 n) := fun x => by simp [World.cell?_alloc_some, q1]
            have A2 : ∀ x, (w1.alloc x).cell? ⟨w.heap.size, 2, none⟩ = some (.string t) := fun x => by simp [World.cell?_alloc_some, q2]
            have B1 := bl_step B0 hb1
            first | (go_region_with (go_at_call 18; refine (GU.out _ _ (Nums.nil _ _)).mono ?_; rintro e w6 ⟨v6, rfl, hn6, hb6⟩)) | fail
            all_goals
              obtain ⟨a6, c6, rfl, _⟩ := hn6
              have B6 : Below w.heap.size w w6 := bl_step (by first | exact (B1.alloc (by exact B1.size) _).drew | exact B1.drew.alloc (by exact B1.size) _ | exact (B1.drew.alloc (by exact B1.size) _).drew | exact ((B1.alloc (by exact B1.size) _).drew).drew) hb6
              go_wp2_with (first
                | (go_at_call 12; refine (GB.out _).mono ?_; rintro e w7 ⟨v7, rfl, hn7, hb7⟩)
                | (go_at_call 10; refine (GS.out _ _ _ (Nums.nil _ _) hn7).mono ?_; rintro e w8 ⟨rfl, hb8⟩))
              go_ret
              exact ⟨rfl, bl_step (bl_step B6 hb7) hb8⟩
          | some A =>
            go_enter Try.func6, Try.ntmps6
            go_wp2_with (first
              | (go_at_call 8; refine (GW.out _).mono ?_; rintro e w1 ⟨rfl, hb1⟩; have q0 : w1.cell? ⟨w.heap.size, 0, none⟩ = some (.int .i64 a) := ((hb1.cell (by (simp))).trans (by (simp))); have q1 : w1.cell? ⟨w.heap.size, 1, none⟩ = some (.int .i64 n) := ((hb1.cell (by (simp))).trans (by (simp))); have q2 : w1.cell? ⟨w.heap.size, 2, none⟩ = some (.string t) := ((hb1.cell (by (simp))).trans (by (simp))))
              | (go_at_call 9; refine (GL.out _).mono ?_; rintro e w2 ⟨rfl, hw2⟩; subst w2)
              | fail)
            have A0 : ∀ x, (w1.alloc x).cell? ⟨w.heap.size, 0, none⟩ = some (.int .i64 a) := fun x => by simp [World.cell?_alloc_some, q0]
            have A1 : ∀ x, (w1.alloc x).cell? ⟨w.heap.size, 1, none⟩ = some (.int .i64 n) := fun x => by simp [World.cell?_alloc_some, q1]
            have A2 : ∀ x, (w1.alloc x).cell? ⟨w.heap.size, 2, none⟩ = some (.string t) := fun x => by simp [World.cell?_alloc_some, q2]
            have B1 := bl_step B0 hb1
            first | (go_region_with (go_at_call 18; refine (GU.out _ _ (Nums.nil _ _)).mono ?_; rintro e w6 ⟨v6, rfl, hn6, hb6⟩)) | fail
            all_goals
              obtain ⟨a6, c6, rfl, _⟩ := hn6
              have B6 : Below w.heap.size w w6 := bl_step (by first | exact (B1.alloc (by exact B1.size) _).drew | exact B1.drew.alloc (by exact B1.size) _ | exact (B1.drew.alloc (by exact B1.size) _).drew | exact ((B1.alloc (by exact B1.size) _).drew).drew) hb6
              go_wp2_with (first
                | (go_at_call 12; refine (GB.out _).mono ?_; rintro e w7 ⟨v7, rfl, hn7, hb7⟩)
                | (go_at_call 10; refine (GS.out _ _ _ (Nums.nil _ _) hn7).mono ?_; rintro e w8 ⟨rfl, hb8⟩))
              go_ret
              exact ⟨rfl, bl_step (bl_step B6 hb7) hb8⟩
        · have hL0 : 0 < l.length := List.length_pos_iff.2 hl0
          obtain ⟨b, o, rfl, hb, hcs⟩ : ∃ b o, ao = some ⟨b, o, none⟩ ∧ b < w.heap.size ∧ ∀ i (h : i < l.length), w.cell? ⟨b, o + i, none⟩ = some (.int .i64 l[i]) := by
            obtain ⟨a0, c0, e0, hq⟩ := H0.out
            injection e0 with e1
            subst e1
            obtain ⟨b, o, rfl, hb, _⟩ := hq 0 hL0
            exact ⟨b, o, rfl, hb, fun i hi => by
              obtain ⟨b', o', e, _, hc⟩ := hq i hi
              cases e
              exact hc⟩
          clear hl0
          have HC := hid hcs
          clear hcs
          go_enter Try.func6, Try.ntmps6
          go_wp2_with (first
            | (go_at_call 8; refine (GW.out _).mono ?_; rintro e w1 ⟨rfl, hb1⟩; have q0 : w1.cell? ⟨w.heap.size, 0, none⟩ = some (.int .i64 a) := ((hb1.cell (by (simp))).trans (by (simp))); have q1 : w1.cell? ⟨w.heap.size, 1, none⟩ = some (.int .i64 n) := ((hb1.cell (by (simp))).trans (by (simp))); have q2 : w1.cell? ⟨w.heap.size, 2, none⟩ = some (.string t) := ((hb1.cell (by (simp))).trans (by (simp))); have z1 : w.heap.size + 1 ≤ w1.heap.size := (by (have := hb1.size; simp at this; omega)))
            | (go_at_call 9; refine (GL.out _).mono ?_; rintro e w2 ⟨rfl, hw2⟩; subst w2)
            | fail)
          have B1 := bl_step B0 hb1
          have N1 := hid (H0.out.keep B1)
          have U4 := hid (World.ownsRow_lit (base := 0) (e := 3) (size := 1) w1 #[] 0 (Nat.zero_le _) (by unfold maxLen; omega) rfl)
          have N4 : Hid (∀ j u, (numCells l)[j]? = some u → (w1.alloc (.cells #[] 3)).cell? ((⟨b, o, none⟩ : Addr).add j) = some u) := fun j u hj => by
            have hj' : j < l.length := by
              have := (List.getElem?_eq_some_iff.1 hj).1
              rwa [numCells_len] at this
            rw [numCells_at hj'] at hj
            obtain rfl := Option.some.inj hj
            have hc : w1.cell? ⟨b, o + j, none⟩ = some (.int .i64 l[j]) := (B1.cell hb).trans (HC.out j hj')
            have hc2 : (w1.alloc (.cells #[] 3)).cell? ⟨b, o + j, none⟩ = some (.int .i64 l[j]) := by simp [World.cell?_alloc_some, hc]
            by_cases j0 : j = 0
            · subst j0; simpa [Addr.add] using hc2
            · simpa [Addr.add, j0] using hc2
          have A0 : ∀ x, (w1.alloc x).cell? ⟨w.heap.size, 0, none⟩ = some (.int .i64 a) := fun x => by simp [World.cell?_alloc_some, q0]
          have A1 : ∀ x, (w1.alloc x).cell? ⟨w.heap.size, 1, none⟩ = some (.int .i64 n) := fun x => by simp [World.cell?_alloc_some, q1]
          have A2 : ∀ x, (w1.alloc x).cell? ⟨w.heap.size, 2, none⟩ = some (.string t) := fun x => by simp [World.cell?_alloc_some, q2]
          have hneq : some w.heap.size ≠ some w1.heap.size := fun e => absurd (Option.some.inj e) (by omega)
          go_region_law ((first
            | (refine step_append_lies _ (by rfl) (.tmp 27) (.tmp 28) 25 (by rfl) 0 3 i0 (.int .i64 0) 1 8 Try.underlying25 hi hz0 hz1 hz2 rfl (by decide) (.slice (some ⟨w1.heap.size, 0, none⟩) 0 0) 0 [] (by rfl) (by exact U4.out) ⟨b, o, none⟩ l.length cap (numCells l) (by rfl) (by rw [numCells_len]; omega) (by exact N4.out) (numCells_one l) (by omega) (by (unfold maxLen); omega) (by omega) (Nat.zero_le _) (w1.heap.size + 1) (by simp) ?_; intro g5 cap5 w5 hown5 hgrow5 hat5 hlt5; rw [Nat.zero_add, List.nil_append] at hown5; have p0 := grow_cell hgrow5 (by exact A0 _) (by exact hneq); have p1 := grow_cell hgrow5 (by exact A1 _) (by exact hneq); have p2 := grow_cell hgrow5 (by exact A2 _) (by exact hneq))
            | (refine step_call (by rfl) 18 #[.slice (some ⟨g5, 0, none⟩) l.length cap5, .string s, .agg #[.int .i64 a, .int .i64 n, .string t]] (by (go_simp; done)) (GU.out _ _ (Nums.of_row hown5)) ?_; rintro e w6 ⟨v6, rfl, hn6, hb6⟩; refine ⟨_, rfl, ?_⟩)))
          all_goals
            have B5 : Below w.heap.size w w5 := Below.grown (by first | exact (B1.alloc (by omega) _).drew | exact B1.drew.alloc (by exact B1.size) _ | exact B1.alloc (by omega) _) hgrow5 (by simp; omega) (fun k hk => by have e : some w1.heap.size = some k := hk; have := Option.some.inj e; omega)
            have B6 := bl_step B5 hb6
            have N6 := hid (H0.out.keep B6)
            have z6 : w.heap.size + 1 ≤ w6.heap.size := by have z5 : w.heap.size < w5.heap.size := World.block_lt_of_cell? _ _ p0; have := hb6.size; omega
            have r0 : w6.cell? ⟨w.heap.size, 0, none⟩ = some (.int .i64 a) := (hb6.cell (World.block_lt_of_cell? _ _ p0)).trans p0
            have r1 : w6.cell? ⟨w.heap.size, 1, none⟩ = some (.int .i64 n) := (hb6.cell (World.block_lt_of_cell? _ _ p1)).trans p1
            have r2 : w6.cell? ⟨w.heap.size, 2, none⟩ = some (.string t) := (hb6.cell (World.block_lt_of_cell? _ _ p2)).trans p2
            clear hgrow5 hown5 U4 N4 A0 A1 A2 hb6 HC N1
            rcases HU with ⟨e1, e2, e3⟩ | ⟨e1, e2, e3, e4⟩ | ⟨e1, e2, e3, e4⟩
            · rw [decide_eq_false e1] at GS
              clear e1
              subst e2 e3
              obtain ⟨a6, c6, rfl, _⟩ := hn6
              go_wp2_with (first
                | (go_at_call 12; refine (GB.out _).mono ?_; rintro e w7 ⟨v7, rfl, hn7, hb7⟩)
                | (go_at_call 10; refine (GS.out _ _ _ (N6.out.keep hb7) hn7).mono ?_; rintro e w8 ⟨rfl, hb8⟩))
              go_ret
              exact ⟨rfl, bl_step (bl_step B6 hb7) hb8⟩
            · rw [decide_eq_true e1] at GS
              have hv : appV s t a n = .tuple #[.string ⟨#[]⟩, .int .i64 (errNo s.size a n t.size)] := by unfold appV; rw [appS_bad e2]
              rw [hv] at GR
              clear hv
              subst e3 e4
              clear e1
              generalize errNo s.size a n t.size = k at GR e2
              have he' : (k != 0) = true := by simpa using e2
              obtain ⟨a6, c6, rfl, _⟩ := hn6
              go_wp2_with (first
                | (go_at_call 12; refine (GB.out _).mono ?_; rintro e w7 ⟨v7, rfl, hn7, hb7⟩)
                | (go_at_call 10; refine (GS.out _ _ _ (N6.out.keep hb7) hn7).mono ?_; rintro e w8 ⟨rfl, hb8⟩; have c0 : w8.cell? ⟨w.heap.size, 0, none⟩ = some (.int .i64 a) := (keep2 hb7 hb8 r0); have c1 : w8.cell? ⟨w.heap.size, 1, none⟩ = some (.int .i64 n) := (keep2 hb7 hb8 r1); have c2 : w8.cell? ⟨w.heap.size, 2, none⟩ = some (.string t) := (keep2 hb7 hb8 r2))
                | (go_at_call 19; refine (GR.out _).mono ?_; rintro e w9 ⟨rfl, hb9⟩))
              go_ret
              exact ⟨by first | rfl | simp, bl_step (bl_step (bl_step B6 hb7) hb8) hb9⟩
            · rw [decide_eq_true e1] at GS
              have hv : appV s t a n = .tuple #[.string (appS s t a n), .int .i64 0] := by unfold appV; rw [e2]
              rw [hv] at GR
              clear hv
              subst e3 e4
              clear e1 e2
              have hsm := appS_small (s := s) (t := t) (a := a) (n := n)
              generalize appS s t a n = r at GR hn6 hsm
              have hrl := st_len r
              have GB2 : Hid (∀ u, Calls Try.prog 12 #[.string r] u fun e w' => ∃ v, e = .returned v ∧ Nums w' v (st r) ∧ Below u.heap.size u w') := fun u => refStartsC r u (by omega)
              have GS2 : Hid (∀ va vb u, Nums u va (st r) → Nums u vb (st r) → Calls Try.prog 10 #[va, vb] u fun e w' => e = .returned (.bool true) ∧ Below u.heap.size u w') := fun va vb u ha hb => by
                have := same10 va vb (st r) (st r) u (by omega) (by omega) ha hb
                rwa [decide_eq_true rfl] at this
              go_wp2_with (first
                | (go_at_call_of 12 (Value.string r); refine (GB2.out _).mono ?_; rintro e wa ⟨va, rfl, hna, hba⟩)
                | (go_at_call 12; refine (GB.out _).mono ?_; rintro e w7 ⟨v7, rfl, hn7, hb7⟩)
                | (go_at_call_of 10 v6; refine (GS2.out _ _ _ ((((hn6.keep hb7).keep hb8).keep hb9).keep hba) hna).mono ?_; rintro e wb ⟨rfl, hbb⟩)
                | (go_at_call 10; refine (GS.out _ _ _ (N6.out.keep hb7) hn7).mono ?_; rintro e w8 ⟨rfl, hb8⟩; have c0 : w8.cell? ⟨w.heap.size, 0, none⟩ = some (.int .i64 a) := (keep2 hb7 hb8 r0); have c1 : w8.cell? ⟨w.heap.size, 1, none⟩ = some (.int .i64 n) := (keep2 hb7 hb8 r1); have c2 : w8.cell? ⟨w.heap.size, 2, none⟩ = some (.string t) := (keep2 hb7 hb8 r2))
                | (go_at_call 19; refine (GR.out _).mono ?_; rintro e w9 ⟨rfl, hb9⟩))
              go_ret
              exact ⟨by first | rfl | simp, bl_step (bl_step (bl_step (bl_step (bl_step B6 hb7) hb8) hb9) hba) hbb⟩

theorem Try.cells3 : Try.prog.cellsOf 3 = 1 := by kernel_rfl

theorem open_nums {H : Type} {enc : TypeId × Value → H} {W : World} {v : Value} {d : DataW H} {p : List MemPlace} {base : Nat} (hv : Value.okWide Try.prog W .any base 25 v)
    (h : DataW.Trod enc Try.prog W 0 (fun _ => true) true 25 v d p) :
    ∃ (l : List Int) (ao : Option Addr) (cap : Nat), v = .slice ao l.length cap ∧ Nums W v l ∧ l.length ≤ 9223372036854775807 := by
  obtain ⟨ao, len, cap, rfl⟩ := okWide_slice Try.underlying25 hv
  obtain ⟨fuel, hf⟩ := h
  rcases open_ints Try.underlying25 Try.underlying3 Try.cells3 hf with ⟨hcs, _⟩ | ⟨a, len', cap', zs, hcs, _, hl, hm, hz, _, hcells, _⟩
  · simp [Value.cells] at hcs
    obtain ⟨rfl, rfl, rfl⟩ := hcs
    exact ⟨[], none, 0, rfl, Nums.nil _ _, by simp⟩
  · simp [Value.cells] at hcs
    obtain ⟨rfl, rfl, rfl⟩ := hcs
    have hz' : zs.length = cap := by simpa using hz
    have hlen : (zs.take len).length = len := by rw [List.length_take]; omega
    unfold maxLen at hm
    refine ⟨zs.take len, some a, cap, by rw [hlen], ⟨some a, cap, by rw [hlen], fun j hj => ?_⟩, by omega⟩
    have hj' : j < zs.length := by omega
    have hc := hcells j hj'
    obtain ⟨b, off, spot⟩ := a
    have hspot : spot = none := by simpa [Addr.add] using World.cell?_spot (hcells 0 (by omega))
    subst hspot
    rw [Go.WideShapes.add_plain] at hc
    refine ⟨b, off, rfl, World.block_lt_of_cell? _ _ hc, ?_⟩
    rw [hc, List.getD_eq_getElem?_getD, List.getElem?_eq_getElem hj', List.getElem_take]; rfl

theorem open_nse {H : Type} {enc : TypeId × Value → H} {W : World} {base : Nat} {args : Array Value} {ds : List (DataW H)} {p : List MemPlace}
    (hval : ∀ (j : Nat) t v, #[25, 9, 38][j]? = some t → args[j]? = some v → Value.okWide Try.prog W .any base t v)
    (hA : DataW.TrodAll enc Try.prog W 0 (fun _ => true) true [25, 9, 38] args.toList ds p) :
    ∃ (l : List Int) (ao : Option Addr) (cap : Nat) (s t : ByteArray) (a n : Int) (d0 d1 d2 : DataW H), args = #[.slice ao l.length cap, .string s, .agg #[.int .i64 a, .int .i64 n, .string t]] ∧ ds = [d0, d1, d2] ∧ s.size ≤ 9223372036854775807 ∧ t.size ≤ 9223372036854775807 ∧
      a ≤ 9223372036854775807 ∧ l.length ≤ 9223372036854775807 ∧ Nums W (.slice ao l.length cap) l := by
  obtain ⟨v0, v1, v2, d0, d1, d2, p0, p1, p2, rfl, rfl, rfl, h0, h1, h2⟩ := trodAll_three hA
  obtain ⟨l, ao, cap, rfl, hN, hl⟩ := open_nums (hval 0 25 v0 rfl rfl) h0
  obtain ⟨s, rfl, rfl, rfl, hs⟩ := open_string Try.underlying9 (hval 1 9 v1 rfl rfl) h1
  obtain ⟨c0, c1, c2, y0, y1, y2, m, rfl, rfl, rfl, hy0, hy1, hy2⟩ := Joins.open_agg3 Try.underlying38 (by kernel_rfl) Try.cells38 (hval 2 38 v2 rfl rfl) h2
  obtain ⟨a, e0, rfl, wa⟩ := DataW.trod_int Try.underlying3 hy0
  obtain ⟨n, e1, rfl, wn⟩ := DataW.trod_int Try.underlying3 hy1
  obtain ⟨t, e2, rfl, wt⟩ := DataW.trod_string Try.underlying9 hy2
  simp at e0 e1 e2
  subst e0 e1 e2
  unfold maxLen at hs wt
  exact ⟨l, ao, cap, s, t, a, n, _, _, _, rfl, rfl, by omega, by omega, (bounds_i64 wa).2, hl, hN⟩

set_option maxRecDepth 100000 in
theorem linesUpdates_lifted (os : Os) (started : os.Started) (H : Type) (enc : TypeId × Value → H) :
    ReturnsInHanded {} Try.checked os 6 .any (Rows.linesUpdatesSpec.pre6 enc Try.prog Try.f6 Rows.linesUpdatesRow.domain false) (Rows.linesUpdatesSpec.post enc Try.prog Try.f6 false true false false) := by
  refine returnsInHanded_of_change (C := Try.checked) Try.own started (by kernel_rfl) Try.func6
    (ChangeSpec.witness6 (enc := enc) (C := Try.checked) false ⟨#[], #[.slice none 0 0, .string .empty, .agg #[.int .i64 0, .int .i64 0, .string .empty]], []⟩ 8 (by kernel_rfl) (by kernel_rfl) (by kernel_rfl) (by kernel_rfl)) ?_
  intro W base args ds gs before hval0 hW hcnd _
  have hval : ∀ (j : Nat) t v, Try.f6.params[j]? = some t → args[j]? = some v → Value.okWide Try.prog W .any base t v := hval0
  have hW' := hW
  obtain ⟨p, q, hA0, hV, rfl, hfz, hnd⟩ := hW
  have hA : DataW.TrodAll enc Try.prog W 0 (fun _ => true) true Try.f6.params.toList args.toList ds p := hA0
  rw [Try.params6] at hA hval
  obtain ⟨l, ao, cap, s, t, a, n, d0, d1, d2, rfl, rfl, hs, ht, ha, hl, hN⟩ := open_nse hval hA
  obtain ⟨rfl, rfl⟩ := trodVars_none hV
  clear hA0 hval0
  refine (updatesWalk l ao cap s t a n W hs ht ha hl hN).mono fun e W' ⟨he, hb⟩ => ?_
  subst he
  exact ⟨_, rfl, law_post (by kernel_rfl) rfl (by kernel_rfl) rfl hW' hb⟩

theorem linesUpdates_holds : Rows.LinesUpdatesSaid :=
  OpenClaim.holds_of_wide 6 Try.f6 rfl rfl rfl rfl rfl rfl rfl ⟨rfl, rfl, rfl, rfl, rfl⟩ rfl rfl rfl rfl rfl (by kernel_rfl) Try.func6 (by kernel_rfl)
    (of_decide_eq_true (by kernel_rfl)) (by unfold Func.isWrapper; first | (rw [if_pos (by decide +kernel)]; kernel_rfl) | (rw [if_neg (by decide +kernel)]; exact ⟨rfl, rfl⟩))
    (fun os started H enc _ => linesUpdates_lifted os started H enc)

end Go.Proofs.Ytbemlnllhedbpaa
