/- CheckClosed's walk. -/
import Derived.Test.YthgbjhnknepefaaGreatJG
namespace Go.Proofs.YthgbjhnknepefaaGreat
open Go.RowKit Go.Maps Go.Sort

theorem up_stretch (a : Int) : ∀ n : Nat, Up ((List.range n).map fun (k : Nat) => a + 1 + (k : Int)) := fun n => by
  unfold Up
  rw [List.pairwise_map]
  exact (List.pairwise_lt_range (n := n)).imp (fun h => by omega)
theorem fine_len {g : Gm} (_hg : SndG g) {l : List Int} (hu : Up l) (hr : ∀ m ∈ l, (g.terms : Int) < m ∧ m ≤ (g.all : Int)) (ha : ∀ m, (g.terms : Int) < m → m ≤ (g.all : Int) → m ∈ l) : l.length = g.nonts.length := by
  have hall : (g.all : Int) = (g.terms : Int) + (g.nonts.length : Int) := by unfold Gm.all; omega
  have h1 : l.length ≤ g.nonts.length := nodup_le g.nonts.length l (g.terms : Int) (hu.imp (fun h => by omega)) (fun n hn => by have := hr n hn; omega)
  have h2 := up_sub_len (up_stretch (g.terms : Int) g.nonts.length) hu (fun x hx => by
    rw [List.mem_map] at hx
    obtain ⟨k, hk, rfl⟩ := hx
    rw [List.mem_range] at hk
    exact ha _ (by omega) (by omega))
  rw [List.length_map, List.length_range] at h2
  omega
set_option maxRecDepth 20000 in
set_option maxHeartbeats 16000000 in
theorem checkClosedWalk (HC : CkOK) (HW : WkOK) (rv nv lv pv : Value) (g : Gm) (w : World) (h : GmV w rv nv lv pv g) : Calls Tryz.prog 6 #[gmA rv nv lv pv g.start] w fun e w' => e = .returned (.bool true) ∧ Below w.heap.size w w' := by
  have hKp := hid (fun u (hu : Below w.heap.size w u) => h.keep hu)
  obtain ⟨ra, rc, rfl⟩ := h.rules.shape
  obtain ⟨na, nc, rfl⟩ := h.nonts.shape
  obtain ⟨la, lc, rfl⟩ := h.levels.shape
  obtain ⟨pa, pc, rfl⟩ := h.prods.shape
  have hB1 := al' w (.cells #[.slice ra g.rules.length rc, .slice na g.nonts.length nc, .slice la g.levels.length lc, .slice pa g.prods.length pc, .int .i64 g.start] 27)
  have k1 := heap_new w (.cells #[.slice ra g.rules.length rc, .slice na g.nonts.length nc, .slice la g.levels.length lc, .slice pa g.prods.length pc, .int .i64 g.start] 27)
  obtain ⟨W, hW⟩ : ∃ x, w.alloc (.cells #[.slice ra g.rules.length rc, .slice na g.nonts.length nc, .slice la g.levels.length lc, .slice pa g.prods.length pc, .int .i64 g.start] 27) = x := ⟨_, rfl⟩
  rw [hW] at hB1 k1
  have hk1 := hid (fun u (hu : Below W.heap.size W u) => cells5m (hs_keep k1 hu))
  have hB := hid hB1
  have GW := hid (HW.wakes W)
  by_cases hf : Fits12 g
  · have GL := hid (fun u (hu : Below w.heap.size w u) => longNo _ _ _ _ g u (hKp.out u hu) hf)
    have GS := hid (fun u (hu : Below w.heap.size w u) => refSound g _ _ _ _ u (hKp.out u hu) hf.bnd hf.names)
    by_cases hg : SndG g
    · obtain ⟨l1, l2⟩ := lists_len hg
      have GA := hid (fun u (hu : Below w.heap.size w u) => HC.reached g _ _ _ _ u hf.bnd hf.names (hKp.out u hu))
      have GB := hid (fun u (hu : Below w.heap.size w u) => HC.ends g _ _ _ _ u hf.bnd hf.names (hKp.out u hu))
      have GT := hid (fun u (hu : Below w.heap.size w u) => refTermsC _ _ _ _ g u (hKp.out u hu) (by have := hf.rules; omega))
      have eA : rchA g = ofL (rcN g (g.nonts.length + 1)) := by unfold rchA; exact @if_pos _ (Classical.propDecidable _) hg _ _ _
      have eB : endA g = ofL (enN g (g.nonts.length + 1)) := by unfold endA; exact @if_pos _ (Classical.propDecidable _) hg _ _ _
      rw [eA] at GA
      rw [eB] at GB
      rw [soundB_yes hg] at GS
      obtain ⟨n0, er, hR⟩ := chk_total g
      have GC : Hid (∀ u, Below w.heap.size w u → Calls Tryz.prog 13 #[gmA (.slice ra g.rules.length rc) (.slice na g.nonts.length nc) (.slice la g.levels.length lc) (.slice pa g.prods.length pc) g.start] u fun e w' => e = .returned (.tuple #[.int .i64 n0, .int .i64 er]) ∧ Below u.heap.size u w') := hid (fun u hu => (HC.check g _ _ _ _ u hf.bnd hf.names (hKp.out u hu)).mono (fun e w' => by
        rintro ⟨n, er', rfl, hR', hb⟩
        obtain ⟨u1, u2⟩ := hR'.uniq hR
        subst u1 u2
        exact ⟨rfl, hb⟩))
      have hfine : Hid (er = 0 → (ofL (rcN g (g.nonts.length + 1))).length = g.nonts.length ∧ (ofL (enN g (g.nonts.length + 1))).length = g.nonts.length) := hid (fun h0 => by
        cases hR with
        | arg _ => cases h0
        | empty _ _ _ _ _ => cases h0
        | none _ _ _ => cases h0
        | reach _ _ _ _ _ _ _ _ => cases h0
        | dry _ _ _ _ _ _ _ _ _ => cases h0
        | fine _ _ _ h3 =>
          refine ⟨fine_len hg (ofL_up _) (fun m hm => ?_) (fun m p1 p2 => ?_), fine_len hg (ofL_up _) (fun m hm => ?_) (fun m p1 p2 => ?_)⟩
          · rw [ofL_mem, rcN_all hg] at hm; exact hm.range hg
          · rw [ofL_mem, rcN_all hg]; exact (h3 m p1 p2).1
          · rw [ofL_mem, enN_all hg] at hm; exact hm.range hg
          · rw [ofL_mem, enN_all hg]; exact (h3 m p1 p2).2)
      have hclR : Hid (∀ k (hk : k < g.prods.length) j (hj : j < g.prods[k].right.length), (g.terms : Int) < g.prods[k].right[j] → (ofL (rcN g (g.nonts.length + 1))).contains g.prods[k].left = true → (ofL (rcN g (g.nonts.length + 1))).contains g.prods[k].right[j] = true) := hid (fun k hk j hj h1 h2 => (rc_has hg _).2 (Rch.step _ _ (List.getElem_mem hk) ((rc_has hg _).1 h2) (List.getElem_mem hj) h1))
      have hclE : Hid (∀ k (hk : k < g.prods.length), enB g (ofL (enN g (g.nonts.length + 1))) k g.prods[k].right.length = true → (ofL (enN g (g.nonts.length + 1))).contains g.prods[k].left = true) := hid (fun k hk h => by
        refine (en_has hg _).2 (Ends.prod _ (List.getElem_mem hk) (fun n hn ht => ?_))
        unfold enB at h
        rw [List.getD_eq_getElem?_getD, List.getElem?_eq_getElem hk, Option.getD_some, List.take_length, List.all_eq_true] at h
        have := h n hn
        rw [Bool.or_eq_true, decide_eq_true_eq] at this
        rcases this with h9 | h9
        · omega
        · exact (en_has hg n).1 h9)
      have hfs : Hid (∀ i k (hi : i < g.prods.length) (hk : k < g.prods[i].right.length), enB g (ofL (enN g (g.nonts.length + 1))) i (k + 1) = (enB g (ofL (enN g (g.nonts.length + 1))) i k && (decide (g.prods[i].right[k] ≤ (g.terms : Int)) || (ofL (enN g (g.nonts.length + 1))).contains g.prods[i].right[k]))) := hid (fun i k hi hk => by
        unfold enB
        rw [List.getD_eq_getElem?_getD, List.getElem?_eq_getElem hi, Option.getD_some, List.take_add_one, List.getElem?_eq_getElem hk, Option.toList_some, List.all_append]
        simp)
      have hf0 : Hid (∀ i, enB g (ofL (enN g (g.nonts.length + 1))) i 0 = true) := hid (fun _ => rfl)
      have hPr : Hid (∀ u, Below w.heap.size w u → ∀ k (hk : k < g.prods.length), ∃ b o q1 q3, ∃ _ : True, pa = some ⟨b, o, none⟩ ∧ u.cell? ⟨b, o + k * 3, none⟩ = some (.int .i64 g.prods[k].left) ∧ u.cell? ⟨b, o + k * 3 + 1, none⟩ = some (.slice q1 g.prods[k].right.length q3) ∧ u.cell? ⟨b, o + k * 3 + 2, none⟩ = some (.int .i64 g.prods[k].prec) ∧ ∀ j (hj : j < g.prods[k].right.length), ∃ b2 o2, q1 = some ⟨b2, o2, none⟩ ∧ u.cell? ⟨b2, o2 + j, none⟩ = some (.int .i64 g.prods[k].right[j])) := hid (fun u hu k hk => by
        obtain ⟨b, o, e, -, hx⟩ := (hKp.out u hu).prods.at hk
        obtain ⟨v, x0, x1, x2, hN⟩ := hx
        have hN2 := hN
        obtain ⟨q1, q3, rfl, _, _, hat⟩ := hN2
        refine ⟨b, o, q1, q3, trivial, e, x0, x1, x2, fun j hj => ?_⟩
        obtain ⟨b2, o2, e2, -, hc⟩ := hat j hj
        exact ⟨b2, o2, e2, hc⟩)
      have hrb := hid (fun k (hk : k < g.prods.length) => hf.bnd.right _ (List.getElem_mem hk))
      have lR : Hid ((ofL (rcN g (g.nonts.length + 1))).length ≤ 1000000) := hid (by omega)
      have lE : Hid ((ofL (enN g (g.nonts.length + 1))).length ≤ 1000000) := hid (by omega)
      have b4 := hg.prods
      have b2 := hg.nonts
      have btm : g.terms ≤ 1000 := Nat.le_trans (trmK_le _ _) hf.bnd.rules
      clear h hB1 k1 hf hg HC HW eA eB hR
      generalize enB g (ofL (enN g (g.nonts.length + 1))) = FB at *
      generalize ofL (rcN g (g.nonts.length + 1)) = LR at *
      generalize ofL (enN g (g.nonts.length + 1)) = LE at *
      obtain ⟨pp, hpp⟩ : ∃ n, Hid (g.prods.length = n) := ⟨_, hid rfl⟩
      rw [hpp.out] at hk1 hW GL GS GA GB GT GC b4 ⊢
      clear hKp
      generalize g.rules.length = rn at *
      generalize g.nonts.length = nn at *
      generalize g.levels.length = ll at *
      generalize g.start = st at *
      generalize g.terms = tm at *
      go_enter Tryz.func6, Tryz.ntmps6
      go_wp2_with (first
        | (go_at_call 8; refine GW.out.mono ?_; clear GW; rintro e w1 ⟨rfl, hc1⟩; have h1 := hid hc1; obtain ⟨x0, x1, x2, x3, x4⟩ := hk1.out w1 h1.out; clear hc1)
        | (go_at_call 9; refine (GL.out _ (bl_step hB.out h1.out)).mono ?_; clear GL; rintro e w2 ⟨rfl, hc2⟩; have h2 := hid (bl_step h1.out hc2); obtain ⟨v0, v1, v2, v3, v4⟩ := hk1.out w2 h2.out; clear hc2 x0 x1 x2 x3 x4)
        | (go_at_call 12; refine (GS.out _ (bl_step hB.out h2.out)).mono ?_; clear GS; rintro e w4 ⟨rfl, hc4⟩; have h4 := hid (bl_step h2.out hc4); obtain ⟨x0, x1, x2, x3, x4⟩ := hk1.out w4 h4.out; clear hc4 v0 v1 v2 v3 v4)
        | (go_at_call 20; refine (GT.out _ (bl_step hB.out h4.out)).mono ?_; clear GT; rintro e w5 ⟨rfl, hc5⟩; have h5 := hid (bl_step h4.out hc5); clear hc5 x0 x1 x2 x3 x4))
      clear hW h1 h2 h4
      have hcur := hid (show Below W.heap.size W w5.drew from h5.out.drew)
      obtain ⟨z0, z1, z2, z3, z4⟩ := hk1.out _ hcur.out
      clear h5
      go_region_held3 (fun w' => w'.cell? ⟨w.heap.size, 0, none⟩ = some (.slice ra rn rc) ∧ w'.cell? ⟨w.heap.size, 1, none⟩ = some (.slice na nn nc) ∧ w'.cell? ⟨w.heap.size, 2, none⟩ = some (.slice la ll lc) ∧ w'.cell? ⟨w.heap.size, 3, none⟩ = some (.slice pa pp pc) ∧ w'.cell? ⟨w.heap.size, 4, none⟩ = some (.int .i64 st)) (go_keep) ((first
        | (go_at_call 15; refine (GA.out _ (bl_step hB.out hcur.out)).mono ?_; rintro e w3 ⟨v3, rfl, hN3, hc⟩; obtain ⟨a3, c3, e3⟩ := shapeN13 hN3; subst e3; have hNa := hid hN3; have hNc := hid (hNb.out.keep hc); clear hNb; have hNb := hNc; clear hNc hN3; have hn := hid (bl_step hcur.out hc); clear hcur z0 z1 z2 z3 z4; have hcur := hn; clear hn hc; obtain ⟨z0, z1, z2, z3, z4⟩ := hk1.out _ hcur.out)
        | (go_at_call 15; refine (GA.out _ (bl_step hB.out hcur.out)).mono ?_; rintro e w3 ⟨v3, rfl, hN3, hc⟩; obtain ⟨a3, c3, e3⟩ := shapeN13 hN3; subst e3; have hNa := hid hN3; clear hN3; have hn := hid (bl_step hcur.out hc); clear hcur z0 z1 z2 z3 z4; have hcur := hn; clear hn hc; obtain ⟨z0, z1, z2, z3, z4⟩ := hk1.out _ hcur.out)
        | (go_at_call 16; refine (GB.out _ (bl_step hB.out hcur.out)).mono ?_; rintro e w4 ⟨v4, rfl, hN4, hc⟩; obtain ⟨a4, c4, e4⟩ := shapeN13 hN4; subst e4; have hNb := hid hN4; have hNc := hid (hNa.out.keep hc); clear hNa; have hNa := hNc; clear hNc hN4; have hn := hid (bl_step hcur.out hc); clear hcur z0 z1 z2 z3 z4; have hcur := hn; clear hn hc; obtain ⟨z0, z1, z2, z3, z4⟩ := hk1.out _ hcur.out)
        | (go_at_call 16; refine (GB.out _ (bl_step hB.out hcur.out)).mono ?_; rintro e w4 ⟨v4, rfl, hN4, hc⟩; obtain ⟨a4, c4, e4⟩ := shapeN13 hN4; subst e4; have hNb := hid hN4; clear hN4; have hn := hid (bl_step hcur.out hc); clear hcur z0 z1 z2 z3 z4; have hcur := hn; clear hn hc; obtain ⟨z0, z1, z2, z3, z4⟩ := hk1.out _ hcur.out)))
      all_goals
        have hltz0 : True := trivial
        go_wp2
        clear hltz0 z0 z1 z2 z3 z4
        go_loopw [31] (fun i wr => ∃ k : Nat, k ≤ pp ∧ i = .int .i64 (k : Int) ∧ Hid (Nums wr (.slice a3 LR.length c3) LR) ∧ Hid (Nums wr (.slice a4 LE.length c4) LE) ∧ Hid (Below W.heap.size W wr)) (fun i _ => pp - (intOf i).toNat)
        case atStart => exact ⟨0, Nat.zero_le _, rfl, hNa, hNb, hcur⟩
        case round =>
          clear hNa hNb hcur
          obtain ⟨k, hk, rfl, hNa, hNb, hbl⟩ := hrel
          by_cases hlt : k < pp
          · have hltz : (k : Int) < (pp : Int) := by omega
            have hkl : k < g.prods.length := by rw [hpp.out]; exact hlt
            obtain ⟨b, o, pz1, pz3, -, e, x0, x1, x2, hat⟩ := hPr.out wr (bl_step hB.out hbl.out) k hkl
            subst e
            have hal := al' wr (.cells #[.int .i64 g.prods[k].left, .slice pz1 g.prods[k].right.length pz3, .int .i64 g.prods[k].prec] 43)
            obtain ⟨u0, u1, u2⟩ := cells3h (heap_new wr (.cells #[.int .i64 g.prods[k].left, .slice pz1 g.prods[k].right.length pz3, .int .i64 g.prods[k].prec] 43))
            have hb1 := hid (bl_step hbl.out hal)
            have hN1 := hid (hNa.out.keep hal)
            have hN2 := hid (hNb.out.keep hal)
            have hat1 := hid (fun j (hj : j < g.prods[k].right.length) => (by
              obtain ⟨b2, o2, e2, hc⟩ := hat j hj
              exact ⟨b2, o2, e2, keep_cell hal hc⟩ : ∃ b2 o2, pz1 = some ⟨b2, o2, none⟩ ∧ (wr.alloc (.cells #[.int .i64 g.prods[k].left, .slice pz1 g.prods[k].right.length pz3, .int .i64 g.prods[k].prec] 43)).cell? ⟨b2, o2 + j, none⟩ = some (.int .i64 g.prods[k].right[j])))
            obtain ⟨W3, hW3⟩ : ∃ x, wr.alloc (.cells #[.int .i64 g.prods[k].left, .slice pz1 g.prods[k].right.length pz3, .int .i64 g.prods[k].prec] 43) = x := ⟨_, rfl⟩
            rw [hW3] at u0 u1 u2 hb1 hN1 hN2 hat1
            have HL := hid (fun u (h : Nums u (.slice a3 LR.length c3) LR) => numHas _ LR g.prods[k].left u lR.out h)
            have HX := hid (fun x u (h : Nums u (.slice a3 LR.length c3) LR) => numHas _ LR x u lR.out h)
            have HY := hid (fun x u (h : Nums u (.slice a4 LE.length c4) LE) => numHas _ LE x u lE.out h)
            have hcR := hid (fun j hj h1 h2 => hclR.out k hkl j hj h1 h2)
            have hcE := hid (fun h => hclE.out k hkl h)
            have hS := hid (fun j hj => hfs.out k j hkl hj)
            have hS0 := hid (hf0.out k)
            have hR8 := hrb.out k hkl
            clear hal hat hNa hNb
            obtain ⟨rl, hrl⟩ : ∃ n, Hid (g.prods[k].right.length = n) := ⟨_, hid rfl⟩
            rw [hrl.out] at x1 u1 hW3 hR8 hcE
            generalize g.prods[k].left = xl at *
            generalize g.prods[k].prec = xp at *
            go_wp2
            clear hltz x0 x1 x2 hW3
            go_loopw [8, 38] (fun x i wr => ∃ j : Nat, j ≤ rl ∧ i = .int .i64 (j : Int) ∧ x = .bool (FB k j) ∧ wr = W3) (fun _ i _ => rl - (intOf i).toNat)
            case atStart => exact ⟨0, Nat.zero_le _, rfl, by rw [hS0.out], rfl⟩
            case round =>
              obtain ⟨j, hj, rfl, rfl, rfl⟩ := hrel
              by_cases hlj : j < rl
              · have hljz : (j : Int) < (rl : Int) := by omega
                have hjl : j < g.prods[k].right.length := by rw [hrl.out]; exact hlj
                obtain ⟨b2, o2, e2, y2⟩ := hat1.out j hjl
                subst e2
                have hs := hS.out j hjl
                have hcr := hid (fun h1 h2 => hcR.out j hjl h1 h2)
                have G1 := hid (HL.out wr hN1.out)
                have G2 := hid (HX.out g.prods[k].right[j] wr hN1.out)
                have G3 := hid (HY.out g.prods[k].right[j] wr hN2.out)
                generalize g.prods[k].right[j] = x at *
                generalize hc1 : LR.contains xl = cl at *
                generalize hc2 : LR.contains x = cn at *
                generalize hc3 : LE.contains x = ce at *
                clear hc1 hc2 hc3
                generalize hfb : FB k j = fb at *
                clear hfb
                by_cases a1 : (tm : Int) < x
                · have a1b : decide ((tm : Int) < x) = true := decide_eq_true a1
                  have a2b : decide (x ≤ (tm : Int)) = false := decide_eq_false (by omega)
                  rw [a2b, Bool.false_or] at hs
                  have hs := hid hs
                  cases cl with
                  | true =>
                    obtain rfl := hcr.out a1 rfl
                    clear a1 hcr
                    cases fb with
                    | true =>
                      go_wp2_with (first
                        | (go_at_call 21; refine G1.out.mono ?_; clear G1; rintro e w9 ⟨rfl, hc9⟩; subst w9)
                        | (go_at_call 21; refine G2.out.mono ?_; clear G2; rintro e w9 ⟨rfl, hc9⟩; subst w9)
                        | (go_at_call 21; refine G3.out.mono ?_; clear G3; rintro e w9 ⟨rfl, hc9⟩; subst w9))
                      go_roundw
                      case rel => exact ⟨j + 1, by omega, by go_num, by rw [hs.out]; rfl, by first | rfl | trivial⟩
                      case measure => simp [intOf]; omega
                    | false =>
                      clear G3
                      go_wp2_with (first
                        | (go_at_call 21; refine G1.out.mono ?_; clear G1; rintro e w9 ⟨rfl, hc9⟩; subst w9)
                        | (go_at_call 21; refine G2.out.mono ?_; clear G2; rintro e w9 ⟨rfl, hc9⟩; subst w9))
                      go_roundw
                      case rel => exact ⟨j + 1, by omega, by go_num, by rw [hs.out]; rfl, by first | rfl | trivial⟩
                      case measure => simp [intOf]; omega
                  | false =>
                    clear a1 hcr G2
                    cases fb with
                    | true =>
                      go_wp2_with (first
                        | (go_at_call 21; refine G1.out.mono ?_; clear G1; rintro e w9 ⟨rfl, hc9⟩; subst w9)
                        | (go_at_call 21; refine G3.out.mono ?_; clear G3; rintro e w9 ⟨rfl, hc9⟩; subst w9))
                      go_roundw
                      case rel => exact ⟨j + 1, by omega, by go_num, by rw [hs.out]; rfl, by first | rfl | trivial⟩
                      case measure => simp [intOf]; omega
                    | false =>
                      clear G3
                      go_wp2_with (go_at_call 21; refine G1.out.mono ?_; clear G1; rintro e w9 ⟨rfl, hc9⟩; subst w9)
                      go_roundw
                      case rel => exact ⟨j + 1, by omega, by go_num, by rw [hs.out]; rfl, by first | rfl | trivial⟩
                      case measure => simp [intOf]; omega
                · have a1b : decide ((tm : Int) < x) = false := decide_eq_false a1
                  have a2b : decide (x ≤ (tm : Int)) = true := decide_eq_true (by omega)
                  rw [a2b, Bool.true_or, Bool.and_true] at hs
                  have hs := hid hs
                  clear a1 hcr G1 G2 G3
                  cases fb with
                  | true =>
                    go_wp2
                    go_roundw
                    case rel => exact ⟨j + 1, by omega, by go_num, by rw [hs.out], by first | rfl | trivial⟩
                    case measure => simp [intOf]; omega
                  | false =>
                    go_wp2
                    go_roundw
                    case rel => exact ⟨j + 1, by omega, by go_num, by rw [hs.out], by first | rfl | trivial⟩
                    case measure => simp [intOf]; omega
              · have hljz : ¬ (j : Int) < (rl : Int) := by omega
                obtain rfl : j = rl := by omega
                have G3 := hid (HY.out xl wr hN2.out)
                generalize hfb : FB k j = fb at *
                clear hfb
                cases fb with
                | true =>
                  rw [hcE.out rfl] at G3
                  go_wp2_with (go_at_call 21; refine G3.out.mono ?_; clear G3; rintro e w9 ⟨rfl, hc9⟩; subst w9)
                  go_roundw
                  case rel => exact ⟨k + 1, by omega, by go_num, hN1, hN2, hb1⟩
                  case measure => simp [intOf]; omega
                | false =>
                  clear G3
                  go_wp2
                  go_roundw
                  case rel => exact ⟨k + 1, by omega, by go_num, hN1, hN2, hb1⟩
                  case measure => simp [intOf]; omega
          · have hltz : ¬ (k : Int) < (pp : Int) := by omega
            obtain ⟨y0, y1, y2, y3, y4⟩ := hk1.out wr hbl.out
            have G := hid (GC.out wr (bl_step hB.out hbl.out))
            by_cases e0 : er = 0
            · have e0z : (er != 0) = false := by rw [e0]; rfl
              obtain ⟨q1, q2⟩ := hfine.out e0
              have q1z : ((LR.length : Int) == (nn : Int)) = true := by rw [q1]; simp
              have q2z : ((LE.length : Int) == (nn : Int)) = true := by rw [q2]; simp
              clear e0 q1 q2
              go_wp2_with (go_at_call 13; refine G.out.mono ?_; clear G; rintro e w9 ⟨rfl, hc9⟩; have h9 := hid (bl_step hbl.out hc9); obtain ⟨v0, v1, v2, v3, v4⟩ := hk1.out _ h9.out; clear hc9)
              go_ret
              exact ⟨by simp, bl_step hB.out h9.out⟩
            · have e0z : (er != 0) = true := bne_iff_ne.2 e0
              clear e0
              go_wp2_with (go_at_call 13; refine G.out.mono ?_; clear G; rintro e w9 ⟨rfl, hc9⟩; have h9 := hid (bl_step hbl.out hc9); clear hc9)
              go_ret
              exact ⟨by simp, bl_step hB.out h9.out⟩
    · rw [soundB_no hg] at GS
      clear h hB1 k1 hf hg HC HW
      generalize g.rules.length = rn at *
      generalize g.nonts.length = nn at *
      generalize g.levels.length = ll at *
      generalize g.prods.length = pp at *
      generalize g.start = st at *
      go_enter Tryz.func6, Tryz.ntmps6
      go_wp2_with (first
        | (go_at_call 8; refine GW.out.mono ?_; clear GW; rintro e w1 ⟨rfl, hc1⟩; have h1 := hid hc1; obtain ⟨x0, x1, x2, x3, x4⟩ := hk1.out w1 h1.out; clear hc1)
        | (go_at_call 9; refine (GL.out _ (bl_step hB.out h1.out)).mono ?_; clear GL; rintro e w2 ⟨rfl, hc2⟩; have h2 := hid (bl_step h1.out hc2); obtain ⟨v0, v1, v2, v3, v4⟩ := hk1.out w2 h2.out; clear hc2 x0 x1 x2 x3 x4)
        | (go_at_call 12; refine (GS.out _ (bl_step hB.out h2.out)).mono ?_; clear GS; rintro e w4 ⟨rfl, hc4⟩; have h4 := hid (bl_step h2.out hc4); clear hc4))
      go_ret
      exact ⟨rfl, bl_step hB.out h4.out⟩
  · have GL := hid (fun u (hu : Below w.heap.size w u) => longYes _ _ _ _ g u (hKp.out u hu) hf)
    clear h hB1 k1 hf HC HW
    generalize g.rules.length = rn at *
    generalize g.nonts.length = nn at *
    generalize g.levels.length = ll at *
    generalize g.prods.length = pp at *
    generalize g.start = st at *
    go_enter Tryz.func6, Tryz.ntmps6
    go_wp2_with (first
      | (go_at_call 8; refine GW.out.mono ?_; clear GW; rintro e w1 ⟨rfl, hc1⟩; have h1 := hid hc1; obtain ⟨x0, x1, x2, x3, x4⟩ := hk1.out w1 h1.out; clear hc1)
      | (go_at_call 9; refine (GL.out _ (bl_step hB.out h1.out)).mono ?_; clear GL; rintro e w2 ⟨rfl, hc2⟩; have h2 := hid (bl_step h1.out hc2); clear hc2))
    go_ret
    exact ⟨rfl, bl_step hB.out h2.out⟩

end Go.Proofs.YthgbjhnknepefaaGreat
