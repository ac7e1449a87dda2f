/- The reference: Sound. Layer 14: what Of answers; what is asked of package diff. topiarylaw14.wakes. Layer 14: of a grammar and itself all is kept; turned round as many are kept. -/
import Derived.Test.YtloaikjealcbmaaGreatK17
import Derived.Test.YtloaikjealcbmaaGreatK15
namespace Go.Proofs.YtloaikjealcbmaaGreat
open Go.RowKit Go.Maps Go.Sort

theorem namesB_iff (g : Gm) : namesB g = true ↔ (∀ r ∈ g.rules, rightB r.re = true) ∧ (∀ t ∈ g.allN, namB t = true) ∧ g.allN.Nodup := by
 unfold namesB
 simp only [Bool.and_eq_true, List.all_eq_true, decide_eq_true_eq]
noncomputable def soundB (g : Gm) : Bool := open Classical in decide (SndG g)
theorem soundB_no {g : Gm} (h : ¬ SndG g) : soundB g = false := by unfold soundB; exact @decide_eq_false _ (Classical.propDecidable _) h
theorem soundB_yes {g : Gm} (h : SndG g) : soundB g = true := by unfold soundB; exact @decide_eq_true _ (Classical.propDecidable _) h
theorem lvB_no {i : Nat} {l : Int × Int} (h1 : ¬ (l.1 = 0 ∧ l.2 = 0)) (h2 : ¬ (0 < l.1 ∧ 0 < l.2 ∧ l.2 < 4 ∧ i ≠ 0)) : lvB i l = false := by
 rw [Bool.eq_false_iff]
 intro h
 unfold lvB at h
 simp only [Bool.or_eq_true, Bool.and_eq_true, decide_eq_true_eq] at h
 rcases h with h | h
 · exact h1 h
 · exact h2 ⟨h.1.1.1, h.1.1.2, h.1.2, h.2⟩
theorem lvB_yes {i : Nat} {l : Int × Int} (h : (l.1 = 0 ∧ l.2 = 0) ∨ (0 < l.1 ∧ 0 < l.2 ∧ l.2 < 4 ∧ i ≠ 0)) : lvB i l = true := by
 unfold lvB
 simp only [Bool.or_eq_true, Bool.and_eq_true, decide_eq_true_eq]
 rcases h with h | h
 · exact .inl h
 · exact .inr ⟨⟨⟨h.1, h.2.1⟩, h.2.2.1⟩, h.2.2.2⟩
theorem pdB_parts (g : Gm) (p : Pd) : ((p.left ≤ (g.terms : Int) ∨ (g.all : Int) < p.left ∨ 8 < p.right.length ∨ p.prec < 0 ∨ (g.terms : Int) < p.prec ∨ ∃ j, ∃ hj : j < p.right.length, p.right[j] < 1 ∨ (g.all : Int) < p.right[j]) → pdB g p = false) ∧
 (¬ p.left ≤ (g.terms : Int) → ¬ (g.all : Int) < p.left → ¬ 8 < p.right.length → ¬ p.prec < 0 → ¬ (g.terms : Int) < p.prec → (∀ j (hj : j < p.right.length), 1 ≤ p.right[j] ∧ p.right[j] ≤ (g.all : Int)) → pdB g p = true) := by
 refine ⟨fun h => ?_, fun h1 h2 h3 h4 h5 h6 => ?_⟩
 · rw [Bool.eq_false_iff]
   intro hp
   unfold pdB at hp
   simp only [Bool.and_eq_true, decide_eq_true_eq, List.all_eq_true] at hp
   obtain ⟨⟨⟨⟨⟨p1, p2⟩, p3⟩, p4⟩, p5⟩, p6⟩ := hp
   rcases h with h | h | h | h | h | ⟨j, hj, h⟩
   · omega
   · omega
   · omega
   · omega
   · omega
   · have := p6 _ (List.getElem_mem hj)
     omega
 · unfold pdB
   simp only [Bool.and_eq_true, decide_eq_true_eq, List.all_eq_true]
   refine ⟨⟨⟨⟨⟨by omega, by omega⟩, by omega⟩, by omega⟩, by omega⟩, fun k hk => ?_⟩
   obtain ⟨j, hj, rfl⟩ := List.getElem_of_mem hk
   exact h6 j hj
theorem cells3h {w : World} {b t : Nat} {x0 x1 x2 : Value} (h : w.heap[b]? = some (.cells #[x0, x1, x2] t (0, 0))) : w.cell? ⟨b, 0, none⟩ = some x0 ∧ w.cell? ⟨b, 1, none⟩ = some x1 ∧ w.cell? ⟨b, 2, none⟩ = some x2 := ⟨blk_cell h rfl, blk_cell h rfl, blk_cell h rfl⟩
set_option maxRecDepth 20000 in
set_option maxHeartbeats 16000000 in
theorem refSound (g : Gm) (rv nv lv pv : Value) (w : World) (hV : GmV w rv nv lv pv g) (hb : BndG g) (hnl : ∀ t ∈ g.allN, t.length ≤ 1000000) :
 Calls Tryz.prog 15 #[gmA rv nv lv pv g.start] w fun e w' => e = .returned (.bool (soundB g)) ∧ Below w.heap.size w w' := by
 obtain ⟨ra, rc, rfl⟩ := hV.rules.shape
 obtain ⟨na, nc, rfl⟩ := hV.nonts.shape
 obtain ⟨la, lc, rfl⟩ := hV.levels.shape
 obtain ⟨pa, pc, rfl⟩ := hV.prods.shape
 have hB1 := al' w (.cells #[.slice ra g.rules.length rc, .slice na g.nonts.length nc, .slice la g.levels.length lc, .slice pa g.prods.length pc, .int .i64 g.start] 27)
 have k1 := heap_new w (.cells #[.slice ra g.rules.length rc, .slice na g.nonts.length nc, .slice la g.levels.length lc, .slice pa g.prods.length pc, .int .i64 g.start] 27)
 obtain ⟨W, hW⟩ : ∃ x, w.alloc (.cells #[.slice ra g.rules.length rc, .slice na g.nonts.length nc, .slice la g.levels.length lc, .slice pa g.prods.length pc, .int .i64 g.start] 27) = x := ⟨_, rfl⟩
 rw [hW] at hB1 k1
 have hk1 := hid (fun u (hu : Below W.heap.size W u) => cells5m (hs_keep k1 hu))
 have hB := hid hB1
 have b1 := hb.rules
 have b2 := hb.nonts
 have b3 := hb.levels
 have b4 := hb.prods
 have hKl : Hid (∀ u, Below w.heap.size w u → ∀ k (hk : k < g.levels.length), ∃ b o, la = some ⟨b, o, none⟩ ∧ u.cell? ⟨b, o + k * 2, none⟩ = some (.int .i64 g.levels[k].1) ∧ u.cell? ⟨b, o + k * 2 + 1, none⟩ = some (.int .i64 g.levels[k].2)) := hid (fun u hu k hk => by
  obtain ⟨b, o, e, -, hx⟩ := (hV.keep hu).levels.at hk
  exact ⟨b, o, e, hx.1, hx.2⟩)
 have hKp : Hid (∀ u, Below w.heap.size w u → ∀ k (hk : k < g.prods.length), ∃ b o q1 q3, pa = some ⟨b, o, none⟩ ∧ u.cell? ⟨b, o + k * 3, none⟩ = some (.int .i64 g.prods[k].left) ∧ u.cell? ⟨b, o + k * 3 + 1, none⟩ = some (.slice q1 g.prods[k].right.length q3) ∧ u.cell? ⟨b, o + k * 3 + 2, none⟩ = some (.int .i64 g.prods[k].prec) ∧ Nums u (.slice q1 g.prods[k].right.length q3) g.prods[k].right) := hid (fun u hu k hk => by
  obtain ⟨b, o, e, -, hx⟩ := (hV.keep hu).prods.at hk
  obtain ⟨v, x0, x1, x2, hN⟩ := hx
  have hN2 := hN
  obtain ⟨q1, q3, rfl, _⟩ := hN2
  exact ⟨b, o, q1, q3, e, x0, x1, x2, hN⟩)
 have GM := hid (fun u (hu : Below w.heap.size w u) => namesC g _ _ _ _ u (hV.keep hu) b1 b2 hnl)
 have GT := hid (fun u (hu : Below w.heap.size w u) => refTermsC _ _ _ _ g u (hV.keep hu) (by omega))
 have hall : Hid ((g.all : Int) = (g.terms : Int) + (g.nonts.length : Int)) := hid (by unfold Gm.all; omega)
 have btm : g.terms ≤ 1000 := Nat.le_trans (trmK_le _ _) b1
 have f1 := hid (fun (h : 16 < g.rules.length) => soundB_no (g := g) (fun hs => by have := hs.rules; omega))
 have f2 := hid (fun (h : 16 < g.nonts.length) => soundB_no (g := g) (fun hs => by have := hs.nonts; omega))
 have f3 := hid (fun (h : 40 < g.prods.length) => soundB_no (g := g) (fun hs => by have := hs.prods; omega))
 have f4 := hid (fun (h : namesB g = false) => soundB_no (g := g) (fun hs => by
  have := (namesB_iff g).2 ⟨hs.right, hs.named, hs.once⟩
  rw [h] at this
  cases this))
 have f5 := hid (fun (h : g.levels.length ≠ g.terms + 1) => soundB_no (g := g) (fun hs => h hs.levels))
 have f6 := hid (fun k (hk : k < g.levels.length) (h : lvB k g.levels[k] = false) => soundB_no (g := g) (fun hs => by
  have := hs.lev k hk
  rw [h] at this
  cases this))
 have f7 := hid (fun (h0 : g.nonts.length = 0) (h : g.start ≠ 0) => soundB_no (g := g) (fun hs => h (hs.none h0)))
 have f8 := hid (fun (h0 : 0 < g.nonts.length) (h : ¬ ((g.terms : Int) < g.start ∧ g.start ≤ (g.all : Int))) => soundB_no (g := g) (fun hs => h (hs.start h0)))
 have hfp := hid (fun k (hk : k < g.prods.length) (h : pdB g g.prods[k] = false) => soundB_no (g := g) (fun hs => by
  have := hs.prod _ (List.getElem_mem hk)
  rw [h] at this
  cases this))
 have fy := hid (fun (h1 : ¬ 16 < g.rules.length) (h2 : ¬ 16 < g.nonts.length) (h3 : ¬ 40 < g.prods.length) (h4 : namesB g = true) (h5 : g.levels.length = g.terms + 1) (h6 : ∀ k (hk : k < g.levels.length), lvB k g.levels[k] = true) (h7 : g.nonts.length = 0 → g.start = 0) (h8 : 0 < g.nonts.length → (g.terms : Int) < g.start ∧ g.start ≤ (g.all : Int)) (h9 : ∀ k (hk : k < g.prods.length), pdB g g.prods[k] = true) => soundB_yes (g := g) ⟨by omega, by omega, by omega, ((namesB_iff g).1 h4).1, ((namesB_iff g).1 h4).2.1, ((namesB_iff g).1 h4).2.2, h5, h6, h7, h8, fun p hp => by
  obtain ⟨k, hk, rfl⟩ := List.getElem_of_mem hp
  exact h9 k hk⟩)
 clear hV hb hB1 k1 hnl
 generalize soundB g = R at *
 obtain ⟨y0, y1, y2, y3, y4⟩ := hk1.out W (Below.refl _ _)
 obtain ⟨rn, hrn⟩ : ∃ n, Hid (g.rules.length = n) := ⟨_, hid rfl⟩
 obtain ⟨nn, hnn⟩ : ∃ n, Hid (g.nonts.length = n) := ⟨_, hid rfl⟩
 obtain ⟨ll, hll⟩ : ∃ n, Hid (g.levels.length = n) := ⟨_, hid rfl⟩
 obtain ⟨pp, hpp⟩ : ∃ n, Hid (g.prods.length = n) := ⟨_, hid rfl⟩
 obtain ⟨tm, htm⟩ : ∃ n, Hid (g.terms = n) := ⟨_, hid rfl⟩
 rw [hrn.out] at b1 hk1 GM GT hW f1 fy y0 ⊢
 rw [hnn.out] at b2 hk1 GM GT hW f2 f7 f8 fy hall y1 ⊢
 rw [hll.out] at b3 hk1 GM GT hW f5 y2 ⊢
 rw [hpp.out] at b4 hk1 GM GT hW f3 y3 ⊢
 rw [htm.out] at f5 f8 hall btm GT
 have hpd0 : Hid (∀ p, ((p.left ≤ (tm : Int) ∨ (g.all : Int) < p.left ∨ 8 < p.right.length ∨ p.prec < 0 ∨ (tm : Int) < p.prec ∨ ∃ j, ∃ hj : j < p.right.length, p.right[j] < 1 ∨ (g.all : Int) < p.right[j]) → pdB g p = false) ∧ (¬ p.left ≤ (tm : Int) → ¬ (g.all : Int) < p.left → ¬ 8 < p.right.length → ¬ p.prec < 0 → ¬ (tm : Int) < p.prec → (∀ j (hj : j < p.right.length), 1 ≤ p.right[j] ∧ p.right[j] ≤ (g.all : Int)) → pdB g p = true)) := hid (fun p => by have := pdB_parts g p; rw [htm.out] at this; exact this)
 by_cases c1 : (16 : Int) < (rn : Int)
 · obtain rfl := f1.out (by omega)
   clear GM GT f2 f3 f4 f5 f6 f7 f8 hfp fy
   generalize g.start = st at *
   go_enter Tryz.func15, Tryz.ntmps15
   go_wp2
   go_ret
   exact ⟨rfl, hB.out⟩
 by_cases c2 : (16 : Int) < (nn : Int)
 · obtain rfl := f2.out (by omega)
   clear GM GT f1 f3 f4 f5 f6 f7 f8 hfp fy
   generalize g.start = st at *
   go_enter Tryz.func15, Tryz.ntmps15
   go_wp2
   go_ret
   exact ⟨rfl, hB.out⟩
 by_cases c3 : (40 : Int) < (pp : Int)
 · obtain rfl := f3.out (by omega)
   clear GM GT f1 f2 f4 f5 f6 f7 f8 hfp fy
   generalize g.start = st at *
   go_enter Tryz.func15, Tryz.ntmps15
   go_wp2
   go_ret
   exact ⟨rfl, hB.out⟩
 have G1 := hid (GM.out W hB.out)
 cases hnm : namesB g with
 | false =>
  obtain rfl := f4.out hnm
  rw [hnm] at G1
  clear GM GT f1 f2 f3 f5 f6 f7 f8 hfp fy hnm f4
  generalize g.start = st at *
  go_enter Tryz.func15, Tryz.ntmps15
  go_wp2_with (go_at_call 34; refine G1.out.mono ?_; clear G1; rintro e w1 ⟨rfl, hc1⟩; have hc1 := hid hc1)
  go_ret
  exact ⟨rfl, bl_step hB.out hc1.out⟩
 | true =>
  rw [hnm] at G1
  have fy1 := hid (fun h5 h6 h7 h8 h9 => fy.out (by omega) (by have := hnn.out; omega) (by have := hpp.out; omega) hnm h5 h6 h7 h8 h9)
  have GT1 := hid (fun u (hu : Below W.heap.size W u) => GT.out u (bl_step hB.out hu))
  clear GM GT f1 f2 f3 f4 fy hnm
  by_cases c5 : ll = tm + 1
  · have c5z : ((ll : Int) != (tm : Int) + 1) = false := by rw [c5]; simp
    have c5H := hid c5
    clear c5
    have hst := hid (rfl : g.start = g.start)
    clear hst
    generalize hgs : g.start = st at *
    have hgs := hid hgs
    go_enter Tryz.func15, Tryz.ntmps15
    go_wp2_with (first
     | (go_at_call 34; refine G1.out.mono ?_; clear G1; rintro e w1 ⟨rfl, hc1⟩; have hc1 := hid hc1; obtain ⟨x0, x1, x2, x3, x4⟩ := hk1.out w1 hc1.out)
     | (go_at_call 35; refine (GT1.out w1 hc1.out).mono ?_; clear GT1; rintro e w2 ⟨rfl, hc2⟩; have hc2 := hid (bl_step hc1.out hc2); obtain ⟨z0, z1, z2, z3, z4⟩ := hk1.out w2 hc2.out))
    clear c5z hW y0 y1 y2 y3 y4 x0 x1 x2 x3 x4 z0 z1 z2 z3 z4 c1 c3
    generalize hal : (tm : Int) + (nn : Int) = al at *
    have hal := hid hal
    go_loopw [5] (fun i wr => ∃ k : Nat, k ≤ ll ∧ i = .int .i64 (k : Int) ∧ Hid (∀ j (hj : j < g.levels.length), j < k → lvB j g.levels[j] = true) ∧ Hid (Below W.heap.size W wr)) (fun i _ => ll - (intOf i).toNat)
    case atStart => exact ⟨0, Nat.zero_le _, rfl, hid (fun _ _ h => absurd h (Nat.not_lt_zero _)), hc2⟩
    case round =>
     clear hc1 hc2
     obtain ⟨k, hk, rfl, hq, hbl⟩ := hrel
     have hbw := hid (bl_step hB.out hbl.out)
     obtain ⟨y0, y1, y2, y3, y4⟩ := hk1.out wr hbl.out
     by_cases hlt : k < ll
     · have hltz : (k : Int) < (ll : Int) := by omega
       have hkl : k < g.levels.length := by rw [hll.out]; exact hlt
       obtain ⟨b, o, e, x0, x1⟩ := hKl.out wr hbw.out k hkl
       subst e
       have hno := hid (fun h1 h2 => f6.out k hkl (lvB_no h1 h2))
       have hok := hid (fun (h : (g.levels[k].1 = 0 ∧ g.levels[k].2 = 0) ∨ (0 < g.levels[k].1 ∧ 0 < g.levels[k].2 ∧ g.levels[k].2 < 4 ∧ k ≠ 0)) => (fun j hj h9 => by
        rcases Nat.lt_or_ge j k with h8 | h8
        · exact hq.out j hj h8
        · obtain rfl : j = k := by omega
          exact lvB_yes h : ∀ j (hj : j < g.levels.length), j < k + 1 → lvB j g.levels[j] = true))
       have hb1 := hid (bl_step hbl.out (al' wr (.cells #[.int .i64 g.levels[k].1, .int .i64 g.levels[k].2] 54)))
       clear hq
       generalize g.levels[k] = lx at *
       obtain ⟨p, d⟩ := lx
       dsimp only at *
       by_cases a1 : p = 0
       · have a1z : (p == 0) = true := by rw [a1]; rfl
         by_cases a2 : d = 0
         · have a2z : (d == 0) = true := by rw [a2]; rfl
           have a3 : ¬ 0 < p := by omega
           have hq9 := hid (hok.out (.inl ⟨a1, a2⟩))
           clear hok hno a1 a2
           go_wp2
           go_roundw
           case rel => exact ⟨k + 1, by omega, by go_num, hq9, hb1⟩
           case measure => simp [intOf]; omega
         · have a2z : (d == 0) = false := by rw [beq_eq_false_iff_ne]; exact a2
           have a3 : ¬ 0 < p := by omega
           obtain rfl := hno.out (fun h => a2 h.2) (fun h => a3 h.1)
           clear hok hno a1 a2
           go_wp2
           go_ret
           exact ⟨rfl, bl_step hB.out hb1.out⟩
       have a1z : (p == 0) = false := by rw [beq_eq_false_iff_ne]; exact a1
       by_cases a3 : 0 < p
       · by_cases a4 : 0 < d
         · by_cases a5 : d < 4
           · rcases Nat.eq_zero_or_pos k with a6 | a6
             · have a6z : ((k : Int) == 0) = true := by rw [a6]; rfl
               obtain rfl := hno.out (fun h => a1 h.1) (fun h => h.2.2.2 a6)
               clear hok hno a1 a6
               go_wp2
               go_ret
               exact ⟨rfl, bl_step hB.out hb1.out⟩
             · have a6z : ((k : Int) == 0) = false := by rw [beq_eq_false_iff_ne]; omega
               have hq9 := hid (hok.out (.inr ⟨a3, a4, a5, by omega⟩))
               clear hok hno a1
               go_wp2
               go_roundw
               case rel => exact ⟨k + 1, by omega, by go_num, hq9, hb1⟩
               case measure => simp [intOf]; omega
           · obtain rfl := hno.out (fun h => a1 h.1) (fun h => a5 h.2.2.1)
             clear hok hno a1
             go_wp2
             go_ret
             exact ⟨rfl, bl_step hB.out hb1.out⟩
         · obtain rfl := hno.out (fun h => a1 h.1) (fun h => a4 h.2.1)
           clear hok hno a1
           go_wp2
           go_ret
           exact ⟨rfl, bl_step hB.out hb1.out⟩
       · obtain rfl := hno.out (fun h => a1 h.1) (fun h => a3 h.1)
         clear hok hno a1
         go_wp2
         go_ret
         exact ⟨rfl, bl_step hB.out hb1.out⟩
     · have hltz : ¬ (k : Int) < (ll : Int) := by omega
       have fy2 := hid (fun h7 h8 h9 => fy1.out (by rw [hll.out, htm.out]; exact c5H.out) (fun j hj => hq.out j hj (by rw [hll.out] at hj; omega)) h7 h8 h9)
       clear hq fy1 f6 f5
       rcases Nat.eq_zero_or_pos nn with n0 | n0
       · have n0z : ((nn : Int) == 0) = true := by rw [n0]; rfl
         have n0y : ¬ (0 : Int) < (nn : Int) := by omega
         by_cases s0 : st = 0
         · have s0z : (st != 0) = false := by rw [s0]; rfl
           have hfin := hid (fun h9 => fy2.out (fun _ => s0) (fun h => absurd h (by omega)) h9)
           clear fy2 f7 f8 s0 n0
           go_wp2
           clear hltz hlt hk hbw y0 y1 y2 y3 y4 s0z n0z n0y
           go_loopw [9] (fun i wr => ∃ k : Nat, k ≤ pp ∧ i = .int .i64 (k : Int) ∧ Hid (∀ j (hj : j < g.prods.length), j < k → pdB g g.prods[j] = true) ∧ Hid (Below W.heap.size W wr)) (fun i _ => pp - (intOf i).toNat)
           case atStart => exact ⟨0, Nat.zero_le _, rfl, hid (fun _ _ h => absurd h (Nat.not_lt_zero _)), hbl⟩
           case round =>
            clear hbl
            obtain ⟨k, hk, rfl, hq, hbl⟩ := hrel
            have hbw := hid (bl_step hB.out hbl.out)
            obtain ⟨y0, y1, y2, y3, y4⟩ := hk1.out wr hbl.out
            by_cases hlt : k < pp
            · have hltz : (k : Int) < (pp : Int) := by omega
              have hkl : k < g.prods.length := by rw [hpp.out]; exact hlt
              obtain ⟨b, o, q1, q3, e, x0, x1, x2, hN⟩ := hKp.out wr hbw.out k hkl
              subst e
              have hf9 := hid (fun h => hfp.out k hkl h)
              have hpd := hid (hpd0.out g.prods[k])
              have hmore : Hid (pdB g g.prods[k] = true → ∀ j (hj : j < g.prods.length), j < k + 1 → pdB g g.prods[j] = true) := hid (fun h j hj h9 => by
               rcases Nat.lt_or_ge j k with h8 | h8
               · exact hq.out j hj h8
               · obtain rfl : j = k := by omega
                 exact h)
              have hal := al' wr (.cells #[.int .i64 g.prods[k].left, .slice q1 g.prods[k].right.length q3, .int .i64 g.prods[k].prec] 50)
              obtain ⟨u0, u1, u2⟩ := cells3h (heap_new wr (.cells #[.int .i64 g.prods[k].left, .slice q1 g.prods[k].right.length q3, .int .i64 g.prods[k].prec] 50))
              have hb1 := hid (bl_step hbl.out hal)
              have hbx : Hid (∀ u, Below (wr.alloc (.cells #[.int .i64 g.prods[k].left, .slice q1 g.prods[k].right.length q3, .int .i64 g.prods[k].prec] 50)).heap.size (wr.alloc (.cells #[.int .i64 g.prods[k].left, .slice q1 g.prods[k].right.length q3, .int .i64 g.prods[k].prec] 50)) u → u.cell? ⟨wr.heap.size, 1, none⟩ = some (.slice q1 g.prods[k].right.length q3)) := hid (fun u hu => keep_cell hu u1)
              have hNk := hid (fun u hu => hN.keep (w' := u) (bl_step hal hu))
              obtain ⟨W3, hW3⟩ : ∃ x, wr.alloc (.cells #[.int .i64 g.prods[k].left, .slice q1 g.prods[k].right.length q3, .int .i64 g.prods[k].prec] 50) = x := ⟨_, rfl⟩
              rw [hW3] at hb1 u0 u1 u2 hbx hNk
              clear hq hal hN
              obtain ⟨rl, hrl⟩ : ∃ n, Hid (g.prods[k].right.length = n) := ⟨_, hid rfl⟩
              rw [hrl.out] at x1 u1 hW3 hbx hNk
              generalize g.prods[k].left = xl at *
              generalize g.prods[k].prec = xp at *
              by_cases c1 : xl ≤ (tm : Int)
              · obtain rfl := hf9.out (hpd.out.1 (.inl c1))
                clear hmore hf9 hpd hNk hbx
                go_wp2
                go_ret
                exact ⟨rfl, bl_step hB.out hb1.out⟩
              by_cases c2 : al < xl
              · obtain rfl := hf9.out (hpd.out.1 (.inr (.inl (by have := hall.out; omega))))
                clear hmore hf9 hpd hNk hbx
                go_wp2
                go_ret
                exact ⟨rfl, bl_step hB.out hb1.out⟩
              have c1b : decide (xl ≤ (tm : Int)) = false := decide_eq_false c1
              have c2b : decide (al < xl) = false := decide_eq_false c2
              have c12 := hid (⟨c1, c2⟩ : ¬ xl ≤ (tm : Int) ∧ ¬ al < xl)
              clear c1 c2
              by_cases c3 : (8 : Int) < (rl : Int)
              · obtain rfl := hf9.out (hpd.out.1 (.inr (.inr (.inl (by have := hrl.out; omega)))))
                clear hmore hf9 hpd hNk hbx
                go_wp2
                go_ret
                exact ⟨rfl, bl_step hB.out hb1.out⟩
              by_cases c4 : xp < 0
              · obtain rfl := hf9.out (hpd.out.1 (.inr (.inr (.inr (.inl c4)))))
                clear hmore hf9 hpd hNk hbx
                go_wp2
                go_ret
                exact ⟨rfl, bl_step hB.out hb1.out⟩
              by_cases c5 : (tm : Int) < xp
              · obtain rfl := hf9.out (hpd.out.1 (.inr (.inr (.inr (.inr (.inl c5))))))
                clear hmore hf9 hpd hNk hbx
                go_wp2
                go_ret
                exact ⟨rfl, bl_step hB.out hb1.out⟩
              have hok := hid (fun h => hmore.out (hpd.out.2 (by have := c12.out; omega) (by have := c12.out; have := hall.out; omega) (by have := hrl.out; omega) (by omega) (by omega) h))
              have hno := hid (fun j (hj : j < g.prods[k].right.length) h => hf9.out (hpd.out.1 (.inr (.inr (.inr (.inr (.inr ⟨j, hj, h⟩)))))))
              clear hmore hf9 hpd
              go_wp2
              clear c1b c2b c12 c4 c5 x0 x1 x2 u0 u1 u2 hltz y0 y1 y2 y3 y4 hW3
              go_loopw [11] (fun i wr => ∃ m : Nat, m ≤ rl ∧ i = .int .i64 (m : Int) ∧ Hid (∀ j (hj : j < g.prods[k].right.length), j < m → 1 ≤ g.prods[k].right[j] ∧ g.prods[k].right[j] ≤ (g.all : Int)) ∧ Hid (Below W3.heap.size W3 wr)) (fun i _ => rl - (intOf i).toNat)
              case atStart => exact ⟨0, Nat.zero_le _, rfl, hid (fun _ _ h => absurd h (Nat.not_lt_zero _)), hid (Below.refl _ _)⟩
              case round =>
               obtain ⟨m, hm, rfl, hq, hbm⟩ := hrel
               have z1 := hbx.out _ hbm.out
               have hbz := hid (bl_step hb1.out hbm.out)
               by_cases hlm : m < rl
               · have hlmz : (m : Int) < (rl : Int) := by omega
                 have hml : m < g.prods[k].right.length := by rw [hrl.out]; exact hlm
                 obtain ⟨a', c', e, -, -, hat⟩ := hNk.out _ hbm.out
                 injection e with e _ _
                 subst e
                 obtain ⟨b2, o2, e2, hb2, hx2⟩ := hat m hml
                 subst e2
                 have hno9 := hid (fun h => hno.out m hml h)
                 have hq9 : Hid (1 ≤ g.prods[k].right[m] ∧ g.prods[k].right[m] ≤ (g.all : Int) → ∀ j (hj : j < g.prods[k].right.length), j < m + 1 → 1 ≤ g.prods[k].right[j] ∧ g.prods[k].right[j] ≤ (g.all : Int)) := hid (fun h j hj h9 => by
                  rcases Nat.lt_or_ge j m with h8 | h8
                  · exact hq.out j hj h8
                  · obtain rfl : j = m := by omega
                    exact h)
                 clear hat hb2 hq
                 generalize g.prods[k].right[m] = x at *
                 by_cases d1 : x < 1
                 · obtain rfl := hno9.out (.inl d1)
                   clear hq9 hno9
                   go_wp2
                   go_ret
                   exact ⟨rfl, bl_step hB.out hbz.out⟩
                 by_cases d2 : al < x
                 · obtain rfl := hno9.out (.inr (by have := hall.out; omega))
                   clear hq9 hno9
                   go_wp2
                   go_ret
                   exact ⟨rfl, bl_step hB.out hbz.out⟩
                 have hq8 := hid (hq9.out ⟨by omega, by have := hall.out; omega⟩)
                 clear hq9 hno9
                 go_wp2
                 go_roundw
                 case rel => exact ⟨m + 1, by omega, by go_num, hq8, hid (by first | exact hbm.out | exact belowN hbm.out)⟩
                 case measure => simp [intOf]; omega
               · have hlmz : ¬ (m : Int) < (rl : Int) := by omega
                 have hq8 := hid (hok.out (fun j hj => hq.out j hj (by rw [hrl.out] at hj; omega)))
                 clear hq
                 go_wp2
                 go_roundw
                 case rel => exact ⟨k + 1, by omega, by go_num, hq8, hbz⟩
                 case measure => simp [intOf]; omega
            · have hltz : ¬ (k : Int) < (pp : Int) := by omega
              obtain rfl := hfin.out (fun j hj => hq.out j hj (by rw [hpp.out] at hj; omega))
              clear hq
              go_wp2
              go_ret
              exact ⟨rfl, bl_step hB.out hbl.out⟩
         · have s0z : (st != 0) = true := bne_iff_ne.2 s0
           obtain rfl := f7.out n0 s0
           clear fy2 f8 f7 s0 n0
           go_wp2
           go_ret
           exact ⟨rfl, hbw.out⟩
       · have n0z : ((nn : Int) == 0) = false := by rw [beq_eq_false_iff_ne]; omega
         have n0y : (0 : Int) < (nn : Int) := by omega
         by_cases s1 : st ≤ (tm : Int)
         · obtain rfl := f8.out n0 (fun h => by have := h.1; omega)
           clear fy2 f7 f8
           go_wp2
           go_ret
           exact ⟨rfl, hbw.out⟩
         by_cases s2 : al < st
         · obtain rfl := f8.out n0 (fun h => by have := h.2; have := hall.out; omega)
           clear fy2 f7 f8
           go_wp2
           go_ret
           exact ⟨rfl, hbw.out⟩
         have hfin := hid (fun h9 => fy2.out (fun h => absurd h (by omega)) (fun _ => ⟨by have := htm.out; omega, by have := hall.out; omega⟩) h9)
         clear fy2 f7 f8
         go_wp2
         clear hltz hlt hk hbw y0 y1 y2 y3 y4 s1 s2 n0z n0y
         go_loopw [9] (fun i wr => ∃ k : Nat, k ≤ pp ∧ i = .int .i64 (k : Int) ∧ Hid (∀ j (hj : j < g.prods.length), j < k → pdB g g.prods[j] = true) ∧ Hid (Below W.heap.size W wr)) (fun i _ => pp - (intOf i).toNat)
         case atStart => exact ⟨0, Nat.zero_le _, rfl, hid (fun _ _ h => absurd h (Nat.not_lt_zero _)), hbl⟩
         case round =>
          clear hbl
          obtain ⟨k, hk, rfl, hq, hbl⟩ := hrel
          have hbw := hid (bl_step hB.out hbl.out)
          obtain ⟨y0, y1, y2, y3, y4⟩ := hk1.out wr hbl.out
          by_cases hlt : k < pp
          · have hltz : (k : Int) < (pp : Int) := by omega
            have hkl : k < g.prods.length := by rw [hpp.out]; exact hlt
            obtain ⟨b, o, q1, q3, e, x0, x1, x2, hN⟩ := hKp.out wr hbw.out k hkl
            subst e
            have hf9 := hid (fun h => hfp.out k hkl h)
            have hpd := hid (hpd0.out g.prods[k])
            have hmore : Hid (pdB g g.prods[k] = true → ∀ j (hj : j < g.prods.length), j < k + 1 → pdB g g.prods[j] = true) := hid (fun h j hj h9 => by
             rcases Nat.lt_or_ge j k with h8 | h8
             · exact hq.out j hj h8
             · obtain rfl : j = k := by omega
               exact h)
            have hal := al' wr (.cells #[.int .i64 g.prods[k].left, .slice q1 g.prods[k].right.length q3, .int .i64 g.prods[k].prec] 50)
            obtain ⟨u0, u1, u2⟩ := cells3h (heap_new wr (.cells #[.int .i64 g.prods[k].left, .slice q1 g.prods[k].right.length q3, .int .i64 g.prods[k].prec] 50))
            have hb1 := hid (bl_step hbl.out hal)
            have hbx : Hid (∀ u, Below (wr.alloc (.cells #[.int .i64 g.prods[k].left, .slice q1 g.prods[k].right.length q3, .int .i64 g.prods[k].prec] 50)).heap.size (wr.alloc (.cells #[.int .i64 g.prods[k].left, .slice q1 g.prods[k].right.length q3, .int .i64 g.prods[k].prec] 50)) u → u.cell? ⟨wr.heap.size, 1, none⟩ = some (.slice q1 g.prods[k].right.length q3)) := hid (fun u hu => keep_cell hu u1)
            have hNk := hid (fun u hu => hN.keep (w' := u) (bl_step hal hu))
            obtain ⟨W3, hW3⟩ : ∃ x, wr.alloc (.cells #[.int .i64 g.prods[k].left, .slice q1 g.prods[k].right.length q3, .int .i64 g.prods[k].prec] 50) = x := ⟨_, rfl⟩
            rw [hW3] at hb1 u0 u1 u2 hbx hNk
            clear hq hal hN
            obtain ⟨rl, hrl⟩ : ∃ n, Hid (g.prods[k].right.length = n) := ⟨_, hid rfl⟩
            rw [hrl.out] at x1 u1 hW3 hbx hNk
            generalize g.prods[k].left = xl at *
            generalize g.prods[k].prec = xp at *
            by_cases c1 : xl ≤ (tm : Int)
            · obtain rfl := hf9.out (hpd.out.1 (.inl c1))
              clear hmore hf9 hpd hNk hbx
              go_wp2
              go_ret
              exact ⟨rfl, bl_step hB.out hb1.out⟩
            by_cases c2 : al < xl
            · obtain rfl := hf9.out (hpd.out.1 (.inr (.inl (by have := hall.out; omega))))
              clear hmore hf9 hpd hNk hbx
              go_wp2
              go_ret
              exact ⟨rfl, bl_step hB.out hb1.out⟩
            have c1b : decide (xl ≤ (tm : Int)) = false := decide_eq_false c1
            have c2b : decide (al < xl) = false := decide_eq_false c2
            have c12 := hid (⟨c1, c2⟩ : ¬ xl ≤ (tm : Int) ∧ ¬ al < xl)
            clear c1 c2
            by_cases c3 : (8 : Int) < (rl : Int)
            · obtain rfl := hf9.out (hpd.out.1 (.inr (.inr (.inl (by have := hrl.out; omega)))))
              clear hmore hf9 hpd hNk hbx
              go_wp2
              go_ret
              exact ⟨rfl, bl_step hB.out hb1.out⟩
            by_cases c4 : xp < 0
            · obtain rfl := hf9.out (hpd.out.1 (.inr (.inr (.inr (.inl c4)))))
              clear hmore hf9 hpd hNk hbx
              go_wp2
              go_ret
              exact ⟨rfl, bl_step hB.out hb1.out⟩
            by_cases c5 : (tm : Int) < xp
            · obtain rfl := hf9.out (hpd.out.1 (.inr (.inr (.inr (.inr (.inl c5))))))
              clear hmore hf9 hpd hNk hbx
              go_wp2
              go_ret
              exact ⟨rfl, bl_step hB.out hb1.out⟩
            have hok := hid (fun h => hmore.out (hpd.out.2 (by have := c12.out; omega) (by have := c12.out; have := hall.out; omega) (by have := hrl.out; omega) (by omega) (by omega) h))
            have hno := hid (fun j (hj : j < g.prods[k].right.length) h => hf9.out (hpd.out.1 (.inr (.inr (.inr (.inr (.inr ⟨j, hj, h⟩)))))))
            clear hmore hf9 hpd
            go_wp2
            clear c1b c2b c12 c4 c5 x0 x1 x2 u0 u1 u2 hltz y0 y1 y2 y3 y4 hW3
            go_loopw [11] (fun i wr => ∃ m : Nat, m ≤ rl ∧ i = .int .i64 (m : Int) ∧ Hid (∀ j (hj : j < g.prods[k].right.length), j < m → 1 ≤ g.prods[k].right[j] ∧ g.prods[k].right[j] ≤ (g.all : Int)) ∧ Hid (Below W3.heap.size W3 wr)) (fun i _ => rl - (intOf i).toNat)
            case atStart => exact ⟨0, Nat.zero_le _, rfl, hid (fun _ _ h => absurd h (Nat.not_lt_zero _)), hid (Below.refl _ _)⟩
            case round =>
             obtain ⟨m, hm, rfl, hq, hbm⟩ := hrel
             have z1 := hbx.out _ hbm.out
             have hbz := hid (bl_step hb1.out hbm.out)
             by_cases hlm : m < rl
             · have hlmz : (m : Int) < (rl : Int) := by omega
               have hml : m < g.prods[k].right.length := by rw [hrl.out]; exact hlm
               obtain ⟨a', c', e, -, -, hat⟩ := hNk.out _ hbm.out
               injection e with e _ _
               subst e
               obtain ⟨b2, o2, e2, hb2, hx2⟩ := hat m hml
               subst e2
               have hno9 := hid (fun h => hno.out m hml h)
               have hq9 : Hid (1 ≤ g.prods[k].right[m] ∧ g.prods[k].right[m] ≤ (g.all : Int) → ∀ j (hj : j < g.prods[k].right.length), j < m + 1 → 1 ≤ g.prods[k].right[j] ∧ g.prods[k].right[j] ≤ (g.all : Int)) := hid (fun h j hj h9 => by
                rcases Nat.lt_or_ge j m with h8 | h8
                · exact hq.out j hj h8
                · obtain rfl : j = m := by omega
                  exact h)
               clear hat hb2 hq
               generalize g.prods[k].right[m] = x at *
               by_cases d1 : x < 1
               · obtain rfl := hno9.out (.inl d1)
                 clear hq9 hno9
                 go_wp2
                 go_ret
                 exact ⟨rfl, bl_step hB.out hbz.out⟩
               by_cases d2 : al < x
               · obtain rfl := hno9.out (.inr (by have := hall.out; omega))
                 clear hq9 hno9
                 go_wp2
                 go_ret
                 exact ⟨rfl, bl_step hB.out hbz.out⟩
               have hq8 := hid (hq9.out ⟨by omega, by have := hall.out; omega⟩)
               clear hq9 hno9
               go_wp2
               go_roundw
               case rel => exact ⟨m + 1, by omega, by go_num, hq8, hid (by first | exact hbm.out | exact belowN hbm.out)⟩
               case measure => simp [intOf]; omega
             · have hlmz : ¬ (m : Int) < (rl : Int) := by omega
               have hq8 := hid (hok.out (fun j hj => hq.out j hj (by rw [hrl.out] at hj; omega)))
               clear hq
               go_wp2
               go_roundw
               case rel => exact ⟨k + 1, by omega, by go_num, hq8, hbz⟩
               case measure => simp [intOf]; omega
          · have hltz : ¬ (k : Int) < (pp : Int) := by omega
            obtain rfl := hfin.out (fun j hj => hq.out j hj (by rw [hpp.out] at hj; omega))
            clear hq
            go_wp2
            go_ret
            exact ⟨rfl, bl_step hB.out hbl.out⟩
  · have c5z : ((ll : Int) != (tm : Int) + 1) = true := bne_iff_ne.2 (by omega)
    obtain rfl := f5.out c5
    clear f5 f6 f7 f8 hfp fy1 c5
    generalize g.start = st at *
    go_enter Tryz.func15, Tryz.ntmps15
    go_wp2_with (first
     | (go_at_call 34; refine G1.out.mono ?_; clear G1; rintro e w1 ⟨rfl, hc1⟩; have hc1 := hid hc1; obtain ⟨x0, x1, x2, x3, x4⟩ := hk1.out w1 hc1.out)
     | (go_at_call 35; refine (GT1.out w1 hc1.out).mono ?_; clear GT1; rintro e w2 ⟨rfl, hc2⟩; have hc2 := hid (bl_step hc1.out hc2); obtain ⟨z0, z1, z2, z3, z4⟩ := hk1.out w2 hc2.out))
    go_ret
    exact ⟨rfl, bl_step hB.out hc2.out⟩

end Go.Proofs.YtloaikjealcbmaaGreat
namespace Go.Proofs.YtloaikjealcbmaaGreat
open Go.RowKit Go.Maps Go.Sort

structure ChgD where
 prs : List (Int × Int)
 gone : List Int
 new : List Int
 rules : Bool
 levels : Bool
 start : Bool
def txtsG (g : Gm) : List Txt := g.prods.map (ptxt g)
theorem txtsG_len (g : Gm) : (txtsG g).length = g.prods.length := List.length_map ..
theorem txtsG_at {g : Gm} {k : Nat} (hk : k < g.prods.length) : (txtsG g).getD k [] = ptxt g g.prods[k] := by
 unfold txtsG
 rw [List.getD_eq_getElem?_getD, List.getElem?_map, List.getElem?_eq_getElem hk]
 rfl
/-- of two sound grammars -/
noncomputable def chgS (g h : Gm) : ChgD := ⟨dfPrs (txtsG g) (txtsG h), dfGone (txtsG g) (txtsG h), dfNew (txtsG g) (txtsG h), !rulB g.rules h.rules, !insB g h || !insB h g, !decide (g.name g.start = h.name h.start)⟩
def chgZ : ChgD := ⟨[], [], [], false, false, false⟩
noncomputable def chgG (g h : Gm) : ChgD := @ite _ (SndG g ∧ SndG h) (Classical.propDecidable _) (chgS g h) chgZ
noncomputable def chgE (g h : Gm) : Int := @ite _ (SndG g ∧ SndG h) (Classical.propDecidable _) 0 10
theorem chgG_yes {g h : Gm} (hg : SndG g) (hh : SndG h) : chgG g h = chgS g h := @if_pos _ (Classical.propDecidable _) ⟨hg, hh⟩ _ _ _
theorem chgG_no {g h : Gm} (k : ¬ (SndG g ∧ SndG h)) : chgG g h = chgZ := @if_neg _ (Classical.propDecidable _) k _ _ _
theorem chgE_yes {g h : Gm} (hg : SndG g) (hh : SndG h) : chgE g h = 0 := @if_pos _ (Classical.propDecidable _) ⟨hg, hh⟩ _ _ _
theorem chgE_no {g h : Gm} (k : ¬ (SndG g ∧ SndG h)) : chgE g h = 10 := @if_neg _ (Classical.propDecidable _) k _ _ _
/-- a change as a value -/
structure ChgV (w : World) (kv gv nv : Value) (c : ChgD) : Prop where
 prs : Prs w kv c.prs
 gone : Nums w gv c.gone
 new : Nums w nv c.new
set_option maxRecDepth 20000 in
theorem ChgV.keep {w u : World} {kv gv nv : Value} {c : ChgD} (h : ChgV w kv gv nv c) (hu : Below w.heap.size w u) : ChgV u kv gv nv c := ⟨h.prs.keep hu, h.gone.keep hu, h.new.keep hu⟩
abbrev chA (kv gv nv : Value) (c : ChgD) : Value := .agg #[kv, gv, nv, .bool c.rules, .bool c.levels, .bool c.start]
/-- what a call of Of leaves -/
def OfA (g h : Gm) (w : World) (e : Ending) (w' : World) : Prop := ∃ kv gv nv, e = .returned (.tuple #[chA kv gv nv (chgG g h), .int .i64 (chgE g h)]) ∧ ChgV w' kv gv nv (chgG g h) ∧ Below w.heap.size w w'
/-- grammars that are small enough -/
structure Bd14 (g : Gm) : Prop where
 bnd : BndG g
 nam : ∀ t ∈ g.allN, t.length ≤ 1000000
/-- what is asked of package diff -/
structure DfOK : Prop where
 same : ∀ (g h : Gm) (rv nv lv pv rv' nv' lv' pv' : Value) (u : World), Bd14 g → Bd14 h → GmV u rv nv lv pv g → GmV u rv' nv' lv' pv' h → Calls Tryz.prog 10 #[gmA rv nv lv pv g.start, gmA rv' nv' lv' pv' h.start] u fun e w' => e = .returned (.bool (@decide (g = h) (Classical.propDecidable _))) ∧ Below u.heap.size u w'
 of : ∀ (g h : Gm) (rv nv lv pv rv' nv' lv' pv' : Value) (u : World), Bd14 g → Bd14 h → GmV u rv nv lv pv g → GmV u rv' nv' lv' pv' h → Calls Tryz.prog 12 #[gmA rv nv lv pv g.start, gmA rv' nv' lv' pv' h.start] u (OfA g h u)
/-- three boxes: two of arguments, the answer's -/
theorem boxes3 (w : World) (r n l p r' n' l' p' : Value) (s s' : Int) : ∃ W, ((w.alloc (.cells #[r, n, l, p, .int .i64 s] 27)).alloc (.cells #[r', n', l', p', .int .i64 s'] 27)).alloc (.cells #[.slice none 0 0, .slice none 0 0, .slice none 0 0, .bool false, .bool false, .bool false] 34) = W ∧ Below w.heap.size w W ∧ W.heap[w.heap.size + 1 + 1]? = some (.cells #[.slice none 0 0, .slice none 0 0, .slice none 0 0, .bool false, .bool false, .bool false] 34) ∧ ∀ u, Below W.heap.size W u → (u.cell? ⟨w.heap.size, 0, none⟩ = some r ∧ u.cell? ⟨w.heap.size, 1, none⟩ = some n ∧ u.cell? ⟨w.heap.size, 2, none⟩ = some l ∧ u.cell? ⟨w.heap.size, 3, none⟩ = some p ∧ u.cell? ⟨w.heap.size, 4, none⟩ = some (.int .i64 s)) ∧ (u.cell? ⟨w.heap.size + 1, 0, none⟩ = some r' ∧ u.cell? ⟨w.heap.size + 1, 1, none⟩ = some n' ∧ u.cell? ⟨w.heap.size + 1, 2, none⟩ = some l' ∧ u.cell? ⟨w.heap.size + 1, 3, none⟩ = some p' ∧ u.cell? ⟨w.heap.size + 1, 4, none⟩ = some (.int .i64 s')) := by
 obtain ⟨h1, h2, h3⟩ := three_blocks w (.cells #[r, n, l, p, .int .i64 s] 27) (.cells #[r', n', l', p', .int .i64 s'] 27) (.cells #[.slice none 0 0, .slice none 0 0, .slice none 0 0, .bool false, .bool false, .bool false] 34)
 exact ⟨_, rfl, bl_step (bl_step (al' w _) (al' _ _)) (al' _ _), h3, fun u hu => ⟨cells5m (hs_keep h1 hu), cells5m (hs_keep h2 hu)⟩⟩
set_option maxRecDepth 20000 in
theorem equal2 (d : Nat) (a b a' b' : Int) (w : World) :
 (Op.equalIn (d + 2) 41 (.agg #[.int .i64 a, .int .i64 b]) (.agg #[.int .i64 a', .int .i64 b'])).run Tryz.prog w = .ok (decide (a = a') && decide (b = b')) w := by
 obtain ⟨i0, hi, hz0, hz1, hz2⟩ := info_parts Tryz.info3
 have p0 : ∀ x0 x1 : Int, (part 3 #[.int .i64 x0, .int .i64 x1] 0).run Tryz.prog w = .ok (.int .i64 x0) w := fun _ _ => by simp [part, isAgg, run_underlying Tryz.underlying3]
 have p1 : ∀ x0 x1 : Int, (part 3 #[.int .i64 x0, .int .i64 x1] 1).run Tryz.prog w = .ok (.int .i64 x1) w := fun _ _ => by simp [part, isAgg, run_underlying Tryz.underlying3]
 rw [run_equalIn_array w (d + 1) _ _ Tryz.underlying41 hi, Tryz.cells3, show List.range 2 = [0, 1] from rfl]
 simp only [Op.eqItems, Sem.run_bind, Nat.mul_one, p0, run_equalIn_int w d 3 .i64 .i64 _ _ Tryz.underlying3, Result.andThen_ok]
 by_cases h0 : a = a'
 · by_cases h1 : b = b'
   · subst h0 h1; simp [p1, run_equalIn_int w d 3 .i64 .i64 _ _ Tryz.underlying3]
   · subst h0; simp [h1, p1, run_equalIn_int w d 3 .i64 .i64 _ _ Tryz.underlying3]
 · simp [h0]
/-- six cells stored one behind the other -/
def put6 (w : World) (b : Nat) (x0 x1 x2 x3 x4 x5 : Value) : World := (((((w.setCell ⟨b, 0, none⟩ x0).setCell ⟨b, 1, none⟩ x1).setCell ⟨b, 2, none⟩ x2).setCell ⟨b, 3, none⟩ x3).setCell ⟨b, 4, none⟩ x4).setCell ⟨b, 5, none⟩ x5
theorem put6_blk {w : World} {b : Nat} {T : TypeId} {y0 y1 y2 y3 y4 y5 : Value} (h : w.heap[b]? = some (.cells #[y0, y1, y2, y3, y4, y5] T)) (x0 x1 x2 x3 x4 x5 : Value) : (put6 w b x0 x1 x2 x3 x4 x5).heap[b]? = some (.cells #[x0, x1, x2, x3, x4, x5] T) := by
 unfold put6
 rw [heap_setCell (heap_setCell (heap_setCell (heap_setCell (heap_setCell (heap_setCell h)))))]
 rfl
/-- .. as the walk goes through them -/
theorem put6_walk {w : World} {b : Nat} {T : TypeId} {y0 y1 y2 y3 y4 y5 : Value} (h : w.heap[b]? = some (.cells #[y0, y1, y2, y3, y4, y5] T)) (x0 x1 x2 x3 x4 x5 : Value) : ∃ U1 U2 U3 U4 U5 U6, w.setCell ⟨b, 0, none⟩ x0 = U1 ∧ U1.setCell ⟨b, 1, none⟩ x1 = U2 ∧ U2.setCell ⟨b, 2, none⟩ x2 = U3 ∧ U3.setCell ⟨b, 3, none⟩ x3 = U4 ∧ U4.setCell ⟨b, 4, none⟩ x4 = U5 ∧ U5.setCell ⟨b, 5, none⟩ x5 = U6 ∧ put6 w b x0 x1 x2 x3 x4 x5 = U6 ∧
 (w.cell? ⟨b, 0, none⟩ = some y0 ∧ w.frozen? ⟨b, 0, none⟩ = false ∧ U1.cell? ⟨b, 1, none⟩ = some y1 ∧ U1.frozen? ⟨b, 1, none⟩ = false ∧ U2.cell? ⟨b, 2, none⟩ = some y2 ∧ U2.frozen? ⟨b, 2, none⟩ = false ∧ U3.cell? ⟨b, 3, none⟩ = some y3 ∧ U3.frozen? ⟨b, 3, none⟩ = false ∧ U4.cell? ⟨b, 4, none⟩ = some y4 ∧ U4.frozen? ⟨b, 4, none⟩ = false ∧ U5.cell? ⟨b, 5, none⟩ = some y5 ∧ U5.frozen? ⟨b, 5, none⟩ = false) ∧
 (U6.cell? ⟨b, 0, none⟩ = some x0 ∧ U6.cell? ⟨b, 1, none⟩ = some x1 ∧ U6.cell? ⟨b, 2, none⟩ = some x2 ∧ U6.cell? ⟨b, 3, none⟩ = some x3 ∧ U6.cell? ⟨b, 4, none⟩ = some x4 ∧ U6.cell? ⟨b, 5, none⟩ = some x5) := by
 have h1 := heap_setCell (o := 0) (v := x0) h
 have h2 := heap_setCell (o := 1) (v := x1) h1
 have h3 := heap_setCell (o := 2) (v := x2) h2
 have h4 := heap_setCell (o := 3) (v := x3) h3
 have h5 := heap_setCell (o := 4) (v := x4) h4
 have h6 := put6_blk h x0 x1 x2 x3 x4 x5
 refine ⟨_, _, _, _, _, _, rfl, rfl, rfl, rfl, rfl, rfl, rfl, ?_, ?_⟩
 · exact ⟨blk_cell h rfl, blk_frozen h 0, blk_cell h1 rfl, blk_frozen h1 1, blk_cell h2 rfl, blk_frozen h2 2, blk_cell h3 rfl, blk_frozen h3 3, blk_cell h4 rfl, blk_frozen h4 4, blk_cell h5 rfl, blk_frozen h5 5⟩
 · exact ⟨blk_cell h6 rfl, blk_cell h6 rfl, blk_cell h6 rfl, blk_cell h6 rfl, blk_cell h6 rfl, blk_cell h6 rfl⟩
theorem put6_kept {w : World} {b : Nat} (x0 x1 x2 x3 x4 x5 : Value) : Kept (oneBlk b) w (put6 w b x0 x1 x2 x3 x4 x5) := by
 unfold put6
 have s : ∀ {u v : World} (o : Nat) (x : Value), Kept (oneBlk b) u v → Kept (oneBlk b) u (v.setCell ⟨b, o, none⟩ x) := fun o x h => h.setCell (a := ⟨b, o, none⟩) fun _ => rfl
 exact s _ _ (s _ _ (s _ _ (s _ _ (s _ _ (s _ _ (Kept.refl _ w))))))

end Go.Proofs.YtloaikjealcbmaaGreat
namespace Go.Proofs.YtloaikjealcbmaaGreat
open Go.RowKit Go.Maps Go.Sort

def exC : Txt := [116, 111, 107, 101, 110, 32, 97, 32, 47, 97, 47, 59, 32, 116, 111, 107, 101, 110, 32, 98, 32, 47, 98, 47, 59, 32, 115, 58, 32, 97, 32, 124, 32, 98, 59]
def exD : Txt := [116, 111, 107, 101, 110, 32, 97, 32, 47, 97, 47, 59, 32, 116, 111, 107, 101, 110, 32, 98, 32, 47, 98, 47, 59, 32, 115, 58, 32, 98, 32, 124, 32, 97, 32, 98, 59]
/-- what is asked of the examples -/
def ExOK14 (prs : Txt → Option Gm) : Prop := ∃ gC gD, prs exC = some gC ∧ prs exD = some gD ∧ SndG gC ∧ SndG gD ∧ (chgS gC gD).prs = [(1, 0)] ∧ (chgS gC gD).gone = [0] ∧ (chgS gC gD).new = [1] ∧ (chgS gC gD).rules = false
structure WkOK14 : Prop where
 wakes : ∀ u : World, Calls Tryz.prog 8 #[] u fun e w' => e = .returned (.bool true) ∧ Below u.heap.size u w'
theorem SndG.names14 {g : Gm} (h : SndG g) : ∀ t ∈ g.allN, t.length ≤ 1000000 := fun t ht => by
 have := h.named t ht
 unfold namB at this
 simp only [Bool.and_eq_true, decide_eq_true_eq] at this
 have := this.1.1.1
 omega
theorem nums_one {w : World} {v : Value} {x : Int} (h : Nums w v [x]) : ∃ a c, v = .slice a 1 c := by
 obtain ⟨a, c, e, _⟩ := h
 exact ⟨a, c, e⟩
theorem prs_one {w : World} {v : Value} {x y : Int} (h : Prs w v [(x, y)]) : ∃ b o c, v = .slice (some ⟨b, o, none⟩) 1 c ∧ w.cell? ⟨b, o, none⟩ = some (.int .i64 x) ∧ w.cell? ⟨b, o + 1, none⟩ = some (.int .i64 y) := by
 obtain ⟨a, c, e, _, _, hat⟩ := h
 obtain ⟨b, o, e1, _, h0, h1⟩ := hat 0 (Nat.zero_lt_one)
 subst e1
 rw [Nat.zero_mul, Nat.add_zero] at h0 h1
 exact ⟨b, o, c, e, h0, h1⟩
set_option maxRecDepth 20000 in
set_option maxHeartbeats 16000000 in
theorem wkOK14 {prs : Txt → Option Gm} (HP : PrsOK prs) (HX : ExOK14 prs) (HD : DfOK) : WkOK14 := ⟨fun w => by
 obtain ⟨gC, gD, pC, pD, sC, sD, x1, x2, x3, x4⟩ := HX
 have P1 := hid (HP.yes exC gC w (by decide) pC)
 have P2 := hid (fun u => HP.yes exD gD u (by decide) pD)
 have C1 : Hid (∀ rv nv lv pv rv' nv' lv' pv' u, GmV u rv nv lv pv gC → GmV u rv' nv' lv' pv' gD → Calls Tryz.prog 12 #[gmA rv nv lv pv gC.start, gmA rv' nv' lv' pv' gD.start] u fun e w' => ∃ kb ko kc ga gc na nc l s, e = .returned (.tuple #[.agg #[.slice (some ⟨kb, ko, none⟩) 1 kc, .slice ga 1 gc, .slice na 1 nc, .bool false, .bool l, .bool s], .int .i64 0]) ∧ w'.cell? ⟨kb, ko, none⟩ = some (.int .i64 1) ∧ w'.cell? ⟨kb, ko + 1, none⟩ = some (.int .i64 0) ∧ Below u.heap.size u w') := hid (fun rv nv lv pv rv' nv' lv' pv' u h h' => (HD.of gC gD rv nv lv pv rv' nv' lv' pv' u ⟨HP.bnd _ _ pC, sC.names14⟩ ⟨HP.bnd _ _ pD, sD.names14⟩ h h').mono (fun e w' => by
  rintro ⟨kv, gv, nv2, rfl, hv, hb⟩
  rw [chgG_yes sC sD] at hv ⊢
  rw [chgE_yes sC sD]
  obtain ⟨k1, k2, k3⟩ := hv
  rw [x1] at k1
  rw [x2] at k2
  rw [x3] at k3
  obtain ⟨kb, ko, kc, rfl, y1, y2⟩ := prs_one k1
  obtain ⟨ga, gc, rfl⟩ := nums_one k2
  obtain ⟨na, nc, rfl⟩ := nums_one k3
  exact ⟨kb, ko, kc, ga, gc, na, nc, (chgS gC gD).levels, (chgS gC gD).start, by rw [chA, x4], y1, y2, hb⟩))
 rw [show strT exC = ⟨#[116, 111, 107, 101, 110, 32, 97, 32, 47, 97, 47, 59, 32, 116, 111, 107, 101, 110, 32, 98, 32, 47, 98, 47, 59, 32, 115, 58, 32, 97, 32, 124, 32, 98, 59]⟩ from rfl] at P1
 rw [show strT exD = ⟨#[116, 111, 107, 101, 110, 32, 97, 32, 47, 97, 47, 59, 32, 116, 111, 107, 101, 110, 32, 98, 32, 47, 98, 47, 59, 32, 115, 58, 32, 98, 32, 124, 32, 97, 32, 98, 59]⟩ from rfl] at P2
 clear HP HD pC pD sC sD x1 x2 x3 x4
 have heq : ∀ u, (Op.equalIn 10000 41 (.agg #[.int .i64 1, .int .i64 0]) (.agg #[.int .i64 1, .int .i64 0])).run Tryz.prog u = .ok true u := fun u => equal2 9998 1 0 1 0 u
 generalize hsC : gC.start = stC at *
 generalize hsD : gD.start = stD at *
 clear hsC hsD
 go_enter Tryz.func8, Tryz.ntmps8
 go_wp2_with (first
  | (go_at_call 17; refine P1.out.mono ?_; clear P1; rintro e w1 ⟨rv, nv, lv, pv, rfl, hV, hc1⟩; obtain ⟨ra, rc, hre⟩ := hV.rules.shape; obtain ⟨na, nc, hne⟩ := hV.nonts.shape; obtain ⟨la, lc, hle⟩ := hV.levels.shape; obtain ⟨pa, pc, hpe⟩ := hV.prods.shape; subst hre hne hle hpe; have hal := al' w1 (.cells #[.slice ra gC.rules.length rc, .slice na gC.nonts.length nc, .slice la gC.levels.length lc, .slice pa gC.prods.length pc, .int .i64 stC] 27); have hq1 := hid (hV.keep hal); have hk1 := hid (heap_new w1 (.cells #[.slice ra gC.rules.length rc, .slice na gC.nonts.length nc, .slice la gC.levels.length lc, .slice pa gC.prods.length pc, .int .i64 stC] 27)); have hw1 := hid (bl_step hc1 hal); clear hc1 hal hV)
  | (go_at_call 17; refine (P2.out _).mono ?_; clear P2; rintro e w2 ⟨rv', nv', lv', pv', rfl, hV', hc2⟩; obtain ⟨ra', rc', hre⟩ := hV'.rules.shape; obtain ⟨na', nc', hne⟩ := hV'.nonts.shape; obtain ⟨la', lc', hle⟩ := hV'.levels.shape; obtain ⟨pa', pc', hpe⟩ := hV'.prods.shape; subst hre hne hle hpe; have hal := al' w2 (.cells #[.slice ra' gD.rules.length rc', .slice na' gD.nonts.length nc', .slice la' gD.levels.length lc', .slice pa' gD.prods.length pc', .int .i64 stD] 27); have hq2 := hid (hV'.keep hal); have hk2 := hid (heap_new w2 (.cells #[.slice ra' gD.rules.length rc', .slice na' gD.nonts.length nc', .slice la' gD.levels.length lc', .slice pa' gD.prods.length pc', .int .i64 stD] 27)); have hV3 := hid ((hq1.out.keep hc2).keep hal); have hk3 := hid (hs_keep (hs_keep hk1.out hc2) hal); have hw2 := hid (bl_step (bl_step hw1.out hc2) hal); obtain ⟨a0, a1, a2, a3, a4⟩ := cells5m hk3.out; obtain ⟨b0, b1, b2, b3, b4⟩ := cells5m hk2.out; clear hc2 hal hV')
  | (go_at_call 12; refine (C1.out _ _ _ _ _ _ _ _ _ hV3.out hq2.out).mono ?_; clear C1; rintro e w3 ⟨kb, ko, kc, ga, gc, na, nc, l, s, rfl, y1, y2, hc3⟩; have hal := al' w3 (.cells #[.slice (some ⟨kb, ko, none⟩) 1 kc, .slice ga 1 gc, .slice na 1 nc, .bool false, .bool l, .bool s] 34); have y3 := keep_cell hal y1; have y4 := keep_cell hal y2; have hw3 := hid (bl_step (bl_step hw2.out hc3) hal); clear hc3 y1 y2 hal a0 a1 a2 a3 a4 b0 b1 b2 b3 b4))
 go_ret
 exact ⟨by simp, hw3.out⟩⟩

end Go.Proofs.YtloaikjealcbmaaGreat
namespace Go.Proofs.YtloaikjealcbmaaGreat

end Go.Proofs.YtloaikjealcbmaaGreat
