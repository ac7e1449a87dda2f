/- Package check: fitsEmpty, slices.IndexFunc of rules. topiarylaw13.long. What is asked of package check; its laws' walks. Package check: Check. -/
import Derived.Test.YthgbjhnknepefaaGreatJ26
import Derived.Test.YthgbjhnknepefaaGreatJ28
import Derived.Test.YthgbjhnknepefaaGreatJ14
import Derived.Test.YthgbjhnknepefaaGreatJ16
namespace Go.Proofs.YthgbjhnknepefaaGreat
open Go.RowKit Go.Maps Go.Sort

set_option maxRecDepth 20000 in
theorem nullC13 (v : Value) (l : List Cel) (w : World) (hA : Cels w v l) (hr : rightB l = true) : Calls Tryz.prog 55 #[v] w fun e w' => e = .returned (.bool (nulB l)) ∧ Below w.heap.size w w' := by
  have hc := Classical.choose_spec (right_tree hr)
  have hn : nulB l = (Classical.choose (right_tree hr)).null := by unfold nulB; rw [dif_pos hr]
  rw [hn]
  exact nullPYes v _ w (by rw [hc.2.1]; exact hA) hc.1 (by rw [hc.2.1]; exact hc.2.2)
set_option maxRecDepth 20000 in
set_option maxHeartbeats 8000000 in
theorem fitsC13 (t : ByteArray) (v : Value) (sk : Bool) (l : List Cel) (w : World) (hA : Cels w v l) (hr : rightB l = true) : Calls Tryz.prog 33 #[.agg #[.string t, v, .bool sk]] w fun e w' => e = .returned (.bool (nulB l)) ∧ Below w.heap.size w w' := by
  obtain ⟨q1, q3, rfl, -⟩ := id hA
  have hal := al' w (.cells #[.string t, .slice q1 l.length q3, .bool sk] 48)
  have k1 := heap_new w (.cells #[.string t, .slice q1 l.length q3, .bool sk] 48)
  obtain ⟨W, hW⟩ : ∃ x, w.alloc (.cells #[.string t, .slice q1 l.length q3, .bool sk] 48) = x := ⟨_, rfl⟩
  rw [hW] at hal k1
  have G := hid (nullC13 _ l W (hA.keep hal) hr)
  have x1 : W.cell? ⟨w.heap.size, 1, none⟩ = some (.slice q1 l.length q3) := blk_cell k1 rfl
  have hB := hid hal
  generalize nulB l = R at *
  generalize l.length = n at *
  clear hA hal k1 hr
  go_enter Tryz.func33, Tryz.ntmps33
  go_wp2_with (go_at_call 55; refine G.out.mono ?_; clear G; rintro e w1 ⟨rfl, hc1⟩; have h1 := hid hc1; clear hc1)
  go_ret
  exact ⟨rfl, bl_step hB.out h1.out⟩
/-- the number of the first rule that fits the empty text -/
def IdxR (R : List Rl) (i : Int) : Prop := (i = -1 ∧ ∀ j (hj : j < R.length), nulB R[j].re = false) ∨ ∃ k : Nat, i = (k : Int) ∧ ∃ hk : k < R.length, nulB R[k].re = true ∧ ∀ j (hj : j < R.length), j < k → nulB R[j].re = false
set_option maxRecDepth 20000 in
set_option maxHeartbeats 8000000 in
theorem idxRule (v : Value) (R : List Rl) (w : World) (h : Lst 3 RuleAt w v R) (hR : R.length ≤ 1000) (hr : ∀ r ∈ R, rightB r.re = true) :
    Calls Tryz.prog 32 #[v, .func (.func 33) #[] #[]] w fun e w' => ∃ i : Int, e = .returned (.int .i64 i) ∧ IdxR R i ∧ Below w.heap.size w w' := by
  obtain ⟨ra, rc, rfl⟩ := h.shape
  have hKr : Hid (∀ u, Below w.heap.size w u → ∀ k (hk : k < R.length), ∃ b o q1 q2 q3, ra = some ⟨b, o, none⟩ ∧ u.cell? ⟨b, o + k * 3, none⟩ = some (.string (strT R[k].name)) ∧ u.cell? ⟨b, o + k * 3 + 1, none⟩ = some (.slice q1 q2 q3) ∧ u.cell? ⟨b, o + k * 3 + 2, none⟩ = some (.bool R[k].skip) ∧ Calls Tryz.prog 33 #[.agg #[.string (strT R[k].name), .slice q1 q2 q3, .bool R[k].skip]] u fun e w' => e = .returned (.bool (nulB R[k].re)) ∧ Below u.heap.size u w') := hid (fun u hu k hk => by
    obtain ⟨b, o, e, -, v, h0, h1, h2, hN⟩ := (h.keepR hu.size fun _ _ _ _ h => h.keep hu).at hk
    obtain ⟨q1, q3, rfl, -⟩ := id hN
    exact ⟨b, o, q1, _, q3, e, h0, h1, h2, fitsC13 _ _ _ _ u hN (hr _ (List.getElem_mem hk))⟩)
  have hno : Hid ((∀ j (hj : j < R.length), nulB R[j].re = false) → IdxR R (-1)) := hid (fun h => .inl ⟨rfl, h⟩)
  have hyes : Hid (∀ k (hk : k < R.length), nulB R[k].re = true → (∀ j (hj : j < R.length), j < k → nulB R[j].re = false) → IdxR R (k : Int)) := hid (fun k hk h1 h2 => .inr ⟨k, rfl, hk, h1, h2⟩)
  generalize IdxR R = Q at *
  obtain ⟨n, hn⟩ : ∃ n, Hid (R.length = n) := ⟨_, hid rfl⟩
  rw [hn.out] at hR ⊢
  clear h hr
  go_enter Tryz.func32, Tryz.ntmps32
  go_wp2
  go_loopw [8] (fun i wr => ∃ k : Nat, k ≤ n ∧ i = .int .i64 (k : Int) ∧ Hid (∀ j (hj : j < R.length), j < k → nulB R[j].re = false) ∧ Hid (Below w.heap.size w wr)) (fun i _ => n - (intOf i).toNat)
  case atStart => exact ⟨0, Nat.zero_le _, rfl, hid (fun _ _ h => absurd h (Nat.not_lt_zero _)), hid (Below.refl _ _)⟩
  case round =>
    obtain ⟨k, hk, rfl, hI, hbl⟩ := hrel
    by_cases hlt : k < n
    · have hltz : (k : Int) < (n : Int) := by omega
      have hkl : k < R.length := by rw [hn.out]; exact hlt
      obtain ⟨b, o, q1, q2, q3, rfl, c0, c1, c2, G0⟩ := hKr.out wr hbl.out k hkl
      have G := hid G0
      have hy := hid (fun h => hyes.out k hkl h hI.out)
      have hmore : Hid (nulB R[k].re = false → ∀ j (hj : j < R.length), j < k + 1 → nulB R[j].re = false) := hid (fun h j hj h9 => by
        rcases Nat.lt_or_ge j k with h8 | h8
        · exact hI.out j hj h8
        · obtain rfl : j = k := by omega
          exact h)
      clear hI hyes hno hKr G0
      generalize nulB R[k].re = bb at *
      generalize strT R[k].name = v1 at *
      generalize R[k].skip = v3 at *
      cases bb with
      | false =>
        have hm9 := hid (hmore.out rfl)
        clear hmore hy
        go_wp2_with (go_at_call 33; refine G.out.mono ?_; clear G; rintro e w4 ⟨rfl, hc4⟩; have hb4 := hid (bl_step hbl.out hc4); clear hc4)
        go_roundw
        case rel => exact ⟨k + 1, by omega, by go_num, hm9, hb4⟩
        case measure => simp [intOf]; omega
      | true =>
        have hy9 := hid (hy.out rfl)
        clear hmore hy
        go_wp2_with (go_at_call 33; refine G.out.mono ?_; clear G; rintro e w4 ⟨rfl, hc4⟩; have hb4 := hid (bl_step hbl.out hc4); clear hc4)
        go_ret
        exact ⟨_, rfl, hy9.out, hb4.out⟩
    · have hltz : ¬ (k : Int) < (n : Int) := by omega
      have hno9 := hid (hno.out (fun j hj => hI.out j hj (by rw [hn.out] at hj; omega)))
      go_wp2
      go_ret
      exact ⟨_, rfl, hno9.out, hbl.out⟩

end Go.Proofs.YthgbjhnknepefaaGreat
namespace Go.Proofs.YthgbjhnknepefaaGreat
open Go.RowKit Go.Maps

/-- no list of a grammar is longer than the laws take -/
structure Fits12 (g : Gm) : Prop where
  rules : g.rules.length ≤ 40
  nonts : g.nonts.length ≤ 40
  levels : g.levels.length ≤ 100
  prods : g.prods.length ≤ 100
  rule : ∀ j (h : j < g.rules.length), g.rules[j].re.length ≤ 100 ∧ g.rules[j].name.length ≤ 100
  nont : ∀ j (h : j < g.nonts.length), g.nonts[j].length ≤ 100
  prod : ∀ j (h : j < g.prods.length), g.prods[j].right.length ≤ 30
/-- what long answers: false just of a grammar that fits -/
def LngA (g : Gm) (w : World) (e : Ending) (w' : World) : Prop := ∃ b, e = .returned (.bool b) ∧ (b = false ↔ Fits12 g) ∧ Below w.heap.size w w'
theorem LngA.yes {g : Gm} {w w' : World} (h : Below w.heap.size w w') (hf : ¬ Fits12 g) : LngA g w (.returned (.bool true)) w' := ⟨true, rfl, ⟨fun h => (by cases h), fun h => absurd h hf⟩, h⟩
theorem LngA.no {g : Gm} {w w' : World} (h : Below w.heap.size w w') (hf : Fits12 g) : LngA g w (.returned (.bool false)) w' := ⟨false, rfl, ⟨fun _ => hf, fun _ => rfl⟩, h⟩
set_option maxRecDepth 20000 in
set_option maxHeartbeats 2000000 in
theorem long12 (rv nv lv pv : Value) (g : Gm) (w : World) (h : GmV w rv nv lv pv g) :
    Calls Tryz.prog 9 #[gmA rv nv lv pv g.start] w (LngA g w) := by
  obtain ⟨a, c, rfl⟩ := h.rules.shape
  obtain ⟨na, nc, rfl⟩ := h.nonts.shape
  obtain ⟨la, lc, rfl⟩ := h.levels.shape
  obtain ⟨pa, pc, rfl⟩ := h.prods.shape
  have hV := hid h
  clear h
  obtain ⟨st, hst⟩ : ∃ x, g.start = x := ⟨_, rfl⟩
  rw [hst]
  obtain ⟨n, hn⟩ : ∃ n, Hid (g.rules.length = n) := ⟨_, hid rfl⟩
  obtain ⟨nn, hnn⟩ : ∃ n, Hid (g.nonts.length = n) := ⟨_, hid rfl⟩
  obtain ⟨nl, hnl⟩ : ∃ n, Hid (g.levels.length = n) := ⟨_, hid rfl⟩
  obtain ⟨np, hnp⟩ : ∃ n, Hid (g.prods.length = n) := ⟨_, hid rfl⟩
  rw [hn.out, hnn.out, hnl.out, hnp.out] at hV ⊢
  obtain ⟨W1, hW1⟩ : ∃ x, w.alloc (.cells #[.slice a n c, .slice na nn nc, .slice la nl lc, .slice pa np pc, .int .i64 st] 27) = x := ⟨_, rfl⟩
  have hB1 : Hid (Below w.heap.size w W1) := by rw [← hW1]; exact hid (al' w _)
  have hk1 : Hid (W1.heap[w.heap.size]? = some (.cells #[.slice a n c, .slice na nn nc, .slice la nl lc, .slice pa np pc, .int .i64 st] 27)) := by rw [← hW1]; exact hid (heap_new w _)
  have y0 : W1.cell? ⟨w.heap.size, 0, none⟩ = some (.slice a n c) := blk_cell hk1.out rfl
  have y1 : W1.cell? ⟨w.heap.size, 1, none⟩ = some (.slice na nn nc) := blk_cell hk1.out rfl
  have y2 : W1.cell? ⟨w.heap.size, 2, none⟩ = some (.slice la nl lc) := blk_cell hk1.out rfl
  have y3 : W1.cell? ⟨w.heap.size, 3, none⟩ = some (.slice pa np pc) := blk_cell hk1.out rfl
  have hV1 := hid (hV.out.keep hB1.out)
  clear hV hk1 hst
  by_cases hbig : n ≤ 40 ∧ nn ≤ 40 ∧ nl ≤ 100 ∧ np ≤ 100
  · obtain ⟨b1, b2, b3, b4⟩ := hbig
    have c1 : ¬ (40 : Int) < (n : Int) := by omega
    have c2 : ¬ (40 : Int) < (nn : Int) := by omega
    have c3 : ¬ (100 : Int) < (nl : Int) := by omega
    have c4 : ¬ (100 : Int) < (np : Int) := by omega
    go_enter Tryz.func9, Tryz.ntmps9
    go_wp2
    clear hW1 c1 c2 c3 c4
    go_loopw [31] (fun i wr => ∃ k : Nat, k ≤ n ∧ i = .int .i64 (k : Int) ∧ Hid (∀ j (h : j < g.rules.length), j < k → g.rules[j].re.length ≤ 100 ∧ g.rules[j].name.length ≤ 100) ∧ wr = W1) (fun i _ => n - (intOf i).toNat)
    case atStart => exact ⟨0, Nat.zero_le _, rfl, hid (fun j _ hj => absurd hj (Nat.not_lt_zero _)), rfl⟩
    case round =>
      obtain ⟨k, hk, rfl, hS, hwr⟩ := hrel
      subst wr
      by_cases hlt : k < n
      · have hltz : (k : Int) < (n : Int) := by omega
        have hkl : k < g.rules.length := by rw [hn.out]; exact hlt
        obtain ⟨b, o, he, -, v, x0, x1, -, hC⟩ := hV1.out.rules.at hkl
        subst he
        obtain ⟨ra, rc, rfl, -⟩ := hC
        have hsz := strT_size g.rules[k].name
        have hS1 : Hid (g.rules[k].re.length ≤ 100 → g.rules[k].name.length ≤ 100 → ∀ j (h : j < g.rules.length), j < k + 1 → g.rules[j].re.length ≤ 100 ∧ g.rules[j].name.length ≤ 100) := hid (fun p1 p2 j h hj => by
          rcases Nat.lt_or_ge j k with h8 | h8
          · exact hS.out j h h8
          · obtain rfl : j = k := by omega
            exact ⟨p1, p2⟩)
        have hF1 : Hid (100 < g.rules[k].re.length → ¬ Fits12 g) := hid (fun h9 h8 => absurd (h8.rule k hkl).1 (by omega))
        have hF2 : Hid (100 < g.rules[k].name.length → ¬ Fits12 g) := hid (fun h9 h8 => absurd (h8.rule k hkl).2 (by omega))
        generalize g.rules[k].re.length = rl at *
        generalize g.rules[k].name = T at *
        by_cases h1 : 100 < rl
        · have h1z : (100 : Int) < (rl : Int) := by omega
          clear hS1
          go_wp2
          go_ret
          exact LngA.yes hB1.out (hF1.out h1)
        · have h1z : ¬ (100 : Int) < (rl : Int) := by omega
          by_cases h2 : 100 < T.length
          · have h2z : (100 : Int) < (T.length : Int) := by omega
            clear hS1
            go_wp2
            go_ret
            exact LngA.yes hB1.out (hF2.out h2)
          · have h2z : ¬ (100 : Int) < (T.length : Int) := by omega
            have hS2 := hid (hS1.out (by omega) (by omega))
            clear hS1
            go_wp2
            go_roundw
            case rel => exact ⟨k + 1, by omega, by go_num, hS2, by first | rfl | trivial⟩
            case measure => simp [intOf]; omega
      · have hltz : ¬ (k : Int) < (n : Int) := by omega
        obtain rfl : k = n := by omega
        go_wp2
        have hS9 := hid (fun j (h : j < g.rules.length) => hS.out j h (by rw [← hn.out]; exact h))
        clear hS hlt hltz hk
        go_loopw [56] (fun i wr => ∃ q : Nat, q ≤ nn ∧ i = .int .i64 (q : Int) ∧ Hid (∀ j (h : j < g.nonts.length), j < q → g.nonts[j].length ≤ 100) ∧ wr = W1) (fun i _ => nn - (intOf i).toNat)
        case atStart => exact ⟨0, Nat.zero_le _, rfl, hid (fun j _ hj => absurd hj (Nat.not_lt_zero _)), by first | rfl | trivial⟩
        case round =>
          obtain ⟨q, hk, rfl, hS, hwr⟩ := hrel
          subst wr
          by_cases hlt : q < nn
          · have hltz : (q : Int) < (nn : Int) := by omega
            have hkl : q < g.nonts.length := by rw [hnn.out]; exact hlt
            obtain ⟨b, o, he, -, x0⟩ := hV1.out.nonts.at hkl
            subst he
            rw [Nat.mul_one] at x0
            unfold TxtAt at x0
            have hsz := strT_size g.nonts[q]
            have hS1 : Hid (g.nonts[q].length ≤ 100 → ∀ j (h : j < g.nonts.length), j < q + 1 → g.nonts[j].length ≤ 100) := hid (fun p1 j h hj => by
              rcases Nat.lt_or_ge j q with h8 | h8
              · exact hS.out j h h8
              · obtain rfl : j = q := by omega
                exact p1)
            have hF1 : Hid (100 < g.nonts[q].length → ¬ Fits12 g) := hid (fun h9 h8 => absurd (h8.nont q hkl) (by omega))
            generalize g.nonts[q] = T at *
            by_cases h2 : 100 < T.length
            · have h2z : (100 : Int) < (T.length : Int) := by omega
              clear hS1
              go_wp2
              go_ret
              exact LngA.yes hB1.out (hF1.out h2)
            · have h2z : ¬ (100 : Int) < (T.length : Int) := by omega
              have hS2 := hid (hS1.out (by omega))
              clear hS1
              go_wp2
              go_roundw
              case rel => exact ⟨q + 1, by omega, by go_num, hS2, by first | rfl | trivial⟩
              case measure => simp [intOf]; omega
          · have hltz : ¬ (q : Int) < (nn : Int) := by omega
            obtain rfl : q = nn := by omega
            go_wp2
            have hN9 := hid (fun j (h : j < g.nonts.length) => hS.out j h (by rw [← hnn.out]; exact h))
            clear hS hlt hltz hk
            go_loopw [70] (fun i wr => ∃ r : Nat, r ≤ np ∧ i = .int .i64 (r : Int) ∧ Hid (∀ j (h : j < g.prods.length), j < r → g.prods[j].right.length ≤ 30) ∧ wr = W1) (fun i _ => np - (intOf i).toNat)
            case atStart => exact ⟨0, Nat.zero_le _, rfl, hid (fun j _ hj => absurd hj (Nat.not_lt_zero _)), by first | rfl | trivial⟩
            case round =>
              obtain ⟨r, hk, rfl, hS, hwr⟩ := hrel
              subst wr
              by_cases hlt : r < np
              · have hltz : (r : Int) < (np : Int) := by omega
                have hkl : r < g.prods.length := by rw [hnp.out]; exact hlt
                obtain ⟨b, o, he, -, v, -, x1, -, hC⟩ := hV1.out.prods.at hkl
                subst he
                obtain ⟨ra, rc, rfl, -⟩ := hC
                have hS1 : Hid (g.prods[r].right.length ≤ 30 → ∀ j (h : j < g.prods.length), j < r + 1 → g.prods[j].right.length ≤ 30) := hid (fun p1 j h hj => by
                  rcases Nat.lt_or_ge j r with h8 | h8
                  · exact hS.out j h h8
                  · obtain rfl : j = r := by omega
                    exact p1)
                have hF1 : Hid (30 < g.prods[r].right.length → ¬ Fits12 g) := hid (fun h9 h8 => absurd (h8.prod r hkl) (by omega))
                generalize g.prods[r].right.length = rl at *
                by_cases h2 : 30 < rl
                · have h2z : (30 : Int) < (rl : Int) := by omega
                  clear hS1
                  go_wp2
                  go_ret
                  exact LngA.yes hB1.out (hF1.out h2)
                · have h2z : ¬ (30 : Int) < (rl : Int) := by omega
                  have hS2 := hid (hS1.out (by omega))
                  clear hS1
                  go_wp2
                  go_roundw
                  case rel => exact ⟨r + 1, by omega, by go_num, hS2, by first | rfl | trivial⟩
                  case measure => simp [intOf]; omega
              · have hltz : ¬ (r : Int) < (np : Int) := by omega
                obtain rfl : r = np := by omega
                have hfit : Hid (Fits12 g) := hid ⟨by rw [hn.out]; exact b1, by rw [hnn.out]; exact b2, by rw [hnl.out]; exact b3, by rw [hnp.out]; exact b4, hS9.out, hN9.out, fun j h => hS.out j h (by rw [← hnp.out]; exact h)⟩
                go_wp2
                go_ret
                exact LngA.no hB1.out hfit.out
  · have hb' : (40 : Int) < (n : Int) ∨ (¬ (40 : Int) < (n : Int) ∧ (40 : Int) < (nn : Int)) ∨ (¬ (40 : Int) < (n : Int) ∧ ¬ (40 : Int) < (nn : Int) ∧ (100 : Int) < (nl : Int)) ∨ (¬ (40 : Int) < (n : Int) ∧ ¬ (40 : Int) < (nn : Int) ∧ ¬ (100 : Int) < (nl : Int) ∧ (100 : Int) < (np : Int)) := by omega
    have hNF : Hid (¬ Fits12 g) := hid (fun h9 => hbig ⟨by rw [← hn.out]; exact h9.rules, by rw [← hnn.out]; exact h9.nonts, by rw [← hnl.out]; exact h9.levels, by rw [← hnp.out]; exact h9.prods⟩)
    clear hbig
    rcases hb' with c1 | ⟨c1, c2⟩ | ⟨c1, c2, c3⟩ | ⟨c1, c2, c3, c4⟩
    · go_enter Tryz.func9, Tryz.ntmps9
      go_wp2
      go_ret
      exact LngA.yes hB1.out hNF.out
    · go_enter Tryz.func9, Tryz.ntmps9
      go_wp2
      go_ret
      exact LngA.yes hB1.out hNF.out
    · go_enter Tryz.func9, Tryz.ntmps9
      go_wp2
      go_ret
      exact LngA.yes hB1.out hNF.out
    · go_enter Tryz.func9, Tryz.ntmps9
      go_wp2
      go_ret
      exact LngA.yes hB1.out hNF.out

set_option maxRecDepth 20000 in
theorem longYes (rv nv lv pv : Value) (g : Gm) (w : World) (h : GmV w rv nv lv pv g) (hf : ¬ Fits12 g) : Calls Tryz.prog 9 #[gmA rv nv lv pv g.start] w fun e w' => e = .returned (.bool true) ∧ Below w.heap.size w w' :=
  (long12 rv nv lv pv g w h).mono (by
    rintro e w' ⟨b, rfl, hb, hw⟩
    cases b with
    | true => exact ⟨rfl, hw⟩
    | false => exact absurd (hb.1 rfl) hf)
set_option maxRecDepth 20000 in
theorem longNo (rv nv lv pv : Value) (g : Gm) (w : World) (h : GmV w rv nv lv pv g) (hf : Fits12 g) : Calls Tryz.prog 9 #[gmA rv nv lv pv g.start] w fun e w' => e = .returned (.bool false) ∧ Below w.heap.size w w' :=
  (long12 rv nv lv pv g w h).mono (by
    rintro e w' ⟨b, rfl, hb, hw⟩
    rw [hb.2 hf]
    exact ⟨rfl, hw⟩)

end Go.Proofs.YthgbjhnknepefaaGreat
namespace Go.Proofs.YthgbjhnknepefaaGreat
open Go.RowKit Go.Maps Go.Sort

set_option maxRecDepth 20000 in
theorem ChkR.uniq {g : Gm} {n e m f : Int} (h : ChkR g n e) (h' : ChkR g m f) : n = m ∧ e = f := by
  cases h with
  | arg h1 =>
    cases h' with
    | arg _ => exact ⟨rfl, rfl⟩
    | empty i hi h2 => exact absurd h2 h1
    | none h2 => exact absurd h2 h1
    | reach m h2 => exact absurd h2 h1
    | dry m h2 => exact absurd h2 h1
    | fine h2 => exact absurd h2 h1
  | empty i hi h1 h2 h3 =>
    cases h' with
    | arg h4 => exact absurd h1 h4
    | empty j hj _ h5 h6 =>
      refine ⟨?_, rfl⟩
      have : i = j := by
        rcases Nat.lt_trichotomy i j with h | h | h
        · have := h6 i hi h; rw [h2] at this; cases this
        · exact h
        · have := h3 j hj h; rw [h5] at this; cases this
      rw [this]
    | none _ h5 => have := h5 i hi; rw [h2] at this; cases this
    | reach m _ h5 => have := h5 i hi; rw [h2] at this; cases this
    | dry m _ h5 => have := h5 i hi; rw [h2] at this; cases this
    | fine _ h5 => have := h5 i hi; rw [h2] at this; cases this
  | none h1 h2 h3 =>
    cases h' with
    | arg h4 => exact absurd h1 h4
    | empty j hj _ h5 => have := h2 j hj; rw [h5] at this; cases this
    | none _ _ _ => exact ⟨rfl, rfl⟩
    | reach m _ _ h5 => omega
    | dry m _ _ h5 => omega
    | fine _ _ h5 => omega
  | reach n h1 h2 h3 h4 h5 h6 h7 =>
    cases h' with
    | arg h8 => exact absurd h1 h8
    | empty j hj _ h8 => have := h2 j hj; rw [h8] at this; cases this
    | none _ _ h8 => omega
    | reach m _ _ _ k4 k5 k6 k7 =>
      refine ⟨?_, rfl⟩
      rcases Int.lt_trichotomy n m with h | h | h
      · exact absurd (k7 n h4 h) h6
      · exact h
      · exact absurd (h7 m k4 h) k6
    | dry m _ _ _ k4 => exact absurd (k4 n h4 h5) h6
    | fine _ _ _ k4 => exact absurd (k4 n h4 h5).1 h6
  | dry n h1 h2 h3 h4 h5 h6 h7 h8 =>
    cases h' with
    | arg k => exact absurd h1 k
    | empty j hj _ k => have := h2 j hj; rw [k] at this; cases this
    | none _ _ k => omega
    | reach m _ _ _ k4 k5 k6 k7 => exact absurd (h4 m k4 k5) k6
    | dry m _ _ _ k4 k5 k6 k7 k8 =>
      refine ⟨?_, rfl⟩
      rcases Int.lt_trichotomy n m with h | h | h
      · exact absurd (k8 n h5 h) h7
      · exact h
      · exact absurd (h8 m k5 h) k7
    | fine _ _ _ k4 => exact absurd (k4 n h5 h6).2 h7
  | fine h1 h2 h3 h4 =>
    cases h' with
    | arg k => exact absurd h1 k
    | empty j hj _ k => have := h2 j hj; rw [k] at this; cases this
    | none _ _ k => omega
    | reach m _ _ _ k4 k5 k6 _ => exact absurd (h4 m k4 k5).1 k6
    | dry m _ _ _ _ k5 k6 k7 _ => exact absurd (h4 m k5 k6).2 k7
    | fine _ _ _ _ => exact ⟨rfl, rfl⟩
/-- what is reached, what ends, rising; of a grammar that isn't sound nothing -/
noncomputable def rchA (g : Gm) : List Int := open Classical in if SndG g then ofL (rcN g (g.nonts.length + 1)) else []
noncomputable def endA (g : Gm) : List Int := open Classical in if SndG g then ofL (enN g (g.nonts.length + 1)) else []
/-- what is asked of package check -/
structure CkOK : Prop where
  sound : ∀ (g : Gm) (rv nv lv pv : Value) (u : World), BndG g → (∀ t ∈ g.allN, t.length ≤ 1000000) → GmV u rv nv lv pv g → Calls Tryz.prog 11 #[gmA rv nv lv pv g.start] u fun e w' => e = .returned (.bool (soundB g)) ∧ Below u.heap.size u w'
  check : ∀ (g : Gm) (rv nv lv pv : Value) (u : World), BndG g → (∀ t ∈ g.allN, t.length ≤ 1000000) → GmV u rv nv lv pv g → Calls Tryz.prog 13 #[gmA rv nv lv pv g.start] u fun e w' => ∃ n er, e = .returned (.tuple #[.int .i64 n, .int .i64 er]) ∧ ChkR g n er ∧ Below u.heap.size u w'
  reached : ∀ (g : Gm) (rv nv lv pv : Value) (u : World), BndG g → (∀ t ∈ g.allN, t.length ≤ 1000000) → GmV u rv nv lv pv g → Calls Tryz.prog 15 #[gmA rv nv lv pv g.start] u fun e w' => ∃ v, e = .returned v ∧ Nums w' v (rchA g) ∧ Below u.heap.size u w'
  ends : ∀ (g : Gm) (rv nv lv pv : Value) (u : World), BndG g → (∀ t ∈ g.allN, t.length ≤ 1000000) → GmV u rv nv lv pv g → Calls Tryz.prog 16 #[gmA rv nv lv pv g.start] u fun e w' => ∃ v, e = .returned v ∧ Nums w' v (endA g) ∧ Below u.heap.size u w'
theorem Fits12.bnd {g : Gm} (h : Fits12 g) : BndG g where
  rules := by have := h.rules; omega
  nonts := by have := h.nonts; omega
  levels := by have := h.levels; omega
  prods := by have := h.prods; omega
  re r hr := by
    obtain ⟨j, hj, e⟩ := List.getElem_of_mem hr
    have := (h.rule j hj).1
    rw [e] at this
    omega
  right p hp := by
    obtain ⟨j, hj, e⟩ := List.getElem_of_mem hp
    have := h.prod j hj
    rw [e] at this
    omega
set_option maxRecDepth 20000 in
theorem Fits12.names {g : Gm} (h : Fits12 g) : ∀ t ∈ g.allN, t.length ≤ 1000000 := fun t ht => by
  unfold Gm.allN at ht
  rw [List.mem_append, List.mem_map] at ht
  rcases ht with ⟨r, hr, rfl⟩ | ht
  · obtain ⟨j, hj, rfl⟩ := List.getElem_of_mem hr
    have := (h.rule j hj).2
    omega
  · obtain ⟨j, hj, rfl⟩ := List.getElem_of_mem ht
    have := h.nont j hj
    omega
/-- what is asked of the examples -/
structure WkOK : Prop where
  wakes : ∀ u : World, Calls Tryz.prog 8 #[] u fun e w' => e = .returned (.bool true) ∧ Below u.heap.size u w'
set_option maxRecDepth 20000 in
set_option maxHeartbeats 8000000 in
theorem checkChecksWalk (HC : CkOK) (HW : WkOK) (rv nv lv pv : Value) (g : Gm) (w : World) (h : GmV w rv nv lv pv g) : Calls Tryz.prog 4 #[gmA rv nv lv pv g.start] w fun e w' => e = .returned (.bool true) ∧ Below w.heap.size w w' := by
  have hKp := hid (fun u (hu : Below w.heap.size w u) => h.keep hu)
  obtain ⟨ra, rc, rfl⟩ := h.rules.shape
  obtain ⟨na, nc, rfl⟩ := h.nonts.shape
  obtain ⟨la, lc, rfl⟩ := h.levels.shape
  obtain ⟨pa, pc, rfl⟩ := h.prods.shape
  have hB1 := al' w (.cells #[.slice ra g.rules.length rc, .slice na g.nonts.length nc, .slice la g.levels.length lc, .slice pa g.prods.length pc, .int .i64 g.start] 27)
  have k1 := heap_new w (.cells #[.slice ra g.rules.length rc, .slice na g.nonts.length nc, .slice la g.levels.length lc, .slice pa g.prods.length pc, .int .i64 g.start] 27)
  obtain ⟨W, hW⟩ : ∃ x, w.alloc (.cells #[.slice ra g.rules.length rc, .slice na g.nonts.length nc, .slice la g.levels.length lc, .slice pa g.prods.length pc, .int .i64 g.start] 27) = x := ⟨_, rfl⟩
  rw [hW] at hB1 k1
  have hk1 := hid (fun u (hu : Below W.heap.size W u) => cells5m (hs_keep k1 hu))
  have hB := hid hB1
  have GW := hid (HW.wakes W)
  by_cases hf : Fits12 g
  · have GL := hid (fun u (hu : Below w.heap.size w u) => longNo _ _ _ _ g u (hKp.out u hu) hf)
    have GC := hid (fun u (hu : Below w.heap.size w u) => HC.check g _ _ _ _ u hf.bnd hf.names (hKp.out u hu))
    have GR := hid (fun u (hu : Below w.heap.size w u) => refCheck g _ _ _ _ u (hKp.out u hu) hf.bnd hf.names)
    have hU := hid (fun n e m f (h1 : ChkR g n e) (h2 : ChkR g m f) => h1.uniq h2)
    clear h hB1 k1 hf HC HW
    generalize g.rules.length = rn at *
    generalize g.nonts.length = nn at *
    generalize g.levels.length = ll at *
    generalize g.prods.length = pp at *
    generalize g.start = st at *
    go_enter Tryz.func4, Tryz.ntmps4
    go_wp2_with (first
      | (go_at_call 8; refine GW.out.mono ?_; clear GW; rintro e w1 ⟨rfl, hc1⟩; have h1 := hid hc1; obtain ⟨x0, x1, x2, x3, x4⟩ := hk1.out w1 h1.out; clear hc1)
      | (go_at_call 9; refine (GL.out _ (bl_step hB.out h1.out)).mono ?_; clear GL; rintro e w2 ⟨rfl, hc2⟩; have h2 := hid (bl_step h1.out hc2); obtain ⟨z0, z1, z2, z3, z4⟩ := hk1.out w2 h2.out; clear hc2)
      | (go_at_call 13; refine (GC.out _ (bl_step hB.out h2.out)).mono ?_; clear GC; rintro e w3 ⟨n3, e3, rfl, hR3, hc3⟩; have h3 := hid (bl_step h2.out hc3); obtain ⟨y0, y1, y2, y3, y4⟩ := hk1.out w3 h3.out; have hR3 := hid hR3; clear hc3)
      | (go_at_call 14; refine (GR.out _ (bl_step hB.out h3.out)).mono ?_; clear GR; rintro e w4 ⟨n4, e4, rfl, hR4, hc4⟩; obtain ⟨u1, u2⟩ := hU.out _ _ _ _ hR3.out hR4; subst u1 u2; have h4 := hid (bl_step h3.out hc4); clear hc4 hR4))
    go_ret
    exact ⟨by simp, bl_step hB.out h4.out⟩
  · have GL := hid (fun u (hu : Below w.heap.size w u) => longYes _ _ _ _ g u (hKp.out u hu) hf)
    clear h hB1 k1 hf HC HW
    generalize g.rules.length = rn at *
    generalize g.nonts.length = nn at *
    generalize g.levels.length = ll at *
    generalize g.prods.length = pp at *
    generalize g.start = st at *
    go_enter Tryz.func4, Tryz.ntmps4
    go_wp2_with (first
      | (go_at_call 8; refine GW.out.mono ?_; clear GW; rintro e w1 ⟨rfl, hc1⟩; have h1 := hid hc1; obtain ⟨x0, x1, x2, x3, x4⟩ := hk1.out w1 h1.out; clear hc1)
      | (go_at_call 9; refine (GL.out _ (bl_step hB.out h1.out)).mono ?_; clear GL; rintro e w2 ⟨rfl, hc2⟩; have h2 := hid (bl_step h1.out hc2); clear hc2))
    go_ret
    exact ⟨rfl, bl_step hB.out h2.out⟩

end Go.Proofs.YthgbjhnknepefaaGreat
namespace Go.Proofs.YthgbjhnknepefaaGreat
open Go.RowKit Go.Maps Go.Sort

theorem first_no (P : Int → Prop) (tm : Nat) : ∀ nn : Nat, (∀ m, (tm : Int) < m → m ≤ (tm : Int) + (nn : Int) → P m) ∨ ∃ k : Nat, k < nn ∧ ¬ P ((tm : Int) + 1 + (k : Int)) ∧ ∀ m, (tm : Int) < m → m < (tm : Int) + 1 + (k : Int) → P m
  | 0 => .inl fun m h1 h2 => by omega
  | nn + 1 => by
    rcases first_no P tm nn with h | ⟨k, h1, h2, h3⟩
    · by_cases hp : P ((tm : Int) + 1 + (nn : Int))
      · left
        intro m h1 h2
        by_cases e : m = (tm : Int) + 1 + (nn : Int)
        · rw [e]; exact hp
        · exact h m h1 (by omega)
      · exact .inr ⟨nn, by omega, hp, fun m h1 h2 => h m h1 (by omega)⟩
    · exact .inr ⟨k, by omega, h2, h3⟩
theorem idx_all {P : Int → Prop} {tm nn : Nat} (h : ∀ m, (tm : Int) < m → m ≤ (tm : Int) + (nn : Int) → P m) (L : List Bool) (hl : L.length = nn) (hL : ∀ n, Mrk tm L n ↔ P n) (i : Int) (hi : IdxF L i) : i = -1 := by
  rcases hi with ⟨e, _⟩ | ⟨k, rfl, hk, hb, hf⟩
  · exact e
  · exact absurd ((hL _).2 (h ((tm : Int) + 1 + (k : Int)) (by omega) (by omega))) (mrk_first hk hb hf).1
theorem idx_some {P : Int → Prop} {tm nn k : Nat} (hk : k < nn) (h1 : ¬ P ((tm : Int) + 1 + (k : Int))) (h2 : ∀ m, (tm : Int) < m → m < (tm : Int) + 1 + (k : Int) → P m) (L : List Bool) (hl : L.length = nn) (hL : ∀ n, Mrk tm L n ↔ P n) (i : Int) (hi : IdxF L i) : i = (k : Int) := by
  rcases hi with ⟨e, h⟩ | ⟨j, rfl, hj, hb, hf⟩
  · exact absurd ((hL _).1 (mrk_all h ((tm : Int) + 1 + (k : Int)) (by omega) (by omega))) h1
  · obtain ⟨h3, h4⟩ := mrk_first (tm := tm) hj hb hf
    rcases Nat.lt_trichotomy j k with h | h | h
    · exact absurd ((hL _).2 (h2 ((tm : Int) + 1 + (j : Int)) (by omega) (by omega))) h3
    · rw [h]
    · exact absurd ((hL _).1 (h4 ((tm : Int) + 1 + (k : Int)) (by omega) (by omega))) h1
theorem rule_ex (R : List Rl) : (∀ j (hj : j < R.length), nulB R[j].re = false) ∨ ∃ k : Nat, ∃ hk : k < R.length, nulB R[k].re = true ∧ ∀ j (hj : j < R.length), j < k → nulB R[j].re = false := by
  suffices h : ∀ n, (∀ j (hj : j < R.length), j < n → nulB R[j].re = false) ∨ ∃ k : Nat, ∃ hk : k < R.length, nulB R[k].re = true ∧ ∀ j (hj : j < R.length), j < k → nulB R[j].re = false by
    rcases h R.length with h | h
    · exact .inl fun j hj => h j hj hj
    · exact .inr h
  intro n
  induction n with
  | zero => exact .inl fun _ _ h => absurd h (Nat.not_lt_zero _)
  | succ n ih =>
    rcases ih with ih | ih
    · by_cases hn : ∃ hk : n < R.length, nulB R[n].re = true
      · obtain ⟨hk, hb⟩ := hn
        exact .inr ⟨n, hk, hb, ih⟩
      · left
        intro j hj h9
        rcases Nat.lt_or_ge j n with h8 | h8
        · exact ih j hj h8
        · obtain rfl : j = n := by omega
          exact Bool.eq_false_iff.2 fun h => hn ⟨hj, h⟩
    · exact .inr ih
theorem idxr_all {R : List Rl} (h : ∀ j (hj : j < R.length), nulB R[j].re = false) (i : Int) (hi : IdxR R i) : i = -1 := by
  rcases hi with ⟨e, _⟩ | ⟨k, rfl, hk, hb, _⟩
  · exact e
  · rw [h k hk] at hb; cases hb
theorem idxr_some {R : List Rl} {k : Nat} (hk : k < R.length) (h1 : nulB R[k].re = true) (h2 : ∀ j (hj : j < R.length), j < k → nulB R[j].re = false) (i : Int) (hi : IdxR R i) : i = (k : Int) := by
  rcases hi with ⟨e, h⟩ | ⟨j, rfl, hj, hb, hf⟩
  · rw [h k hk] at h1; cases h1
  · rcases Nat.lt_trichotomy j k with h | h | h
    · rw [h2 j hj h] at hb; cases hb
    · rw [h]
    · rw [hf k hk h] at h1; cases h1
set_option maxRecDepth 20000 in
set_option maxHeartbeats 16000000 in
theorem checkP (g : Gm) (rv nv lv pv : Value) (w : World) (hV : GmV w rv nv lv pv g) (hb : BndG g) (hnl : ∀ t ∈ g.allN, t.length ≤ 1000000) :
    Calls Tryz.prog 13 #[gmA rv nv lv pv g.start] w fun e w' => ∃ n er, e = .returned (.tuple #[.int .i64 n, .int .i64 er]) ∧ ChkR g n er ∧ Below w.heap.size w w' := by
  obtain ⟨ra, rc, rfl⟩ := hV.rules.shape
  obtain ⟨na, nc, rfl⟩ := hV.nonts.shape
  have hB1 := al' w (.cells #[.slice ra g.rules.length rc, .slice na g.nonts.length nc, lv, pv, .int .i64 g.start] 27)
  have k1 := heap_new w (.cells #[.slice ra g.rules.length rc, .slice na g.nonts.length nc, lv, pv, .int .i64 g.start] 27)
  obtain ⟨W, hW⟩ : ∃ x, w.alloc (.cells #[.slice ra g.rules.length rc, .slice na g.nonts.length nc, lv, pv, .int .i64 g.start] 27) = x := ⟨_, rfl⟩
  rw [hW] at hB1 k1
  have hk1 := hid (fun u (hu : Below W.heap.size W u) => cells5m (hs_keep k1 hu))
  have hB := hid hB1
  have G0 := hid (soundP g _ _ _ _ W (hV.keep hB1) hb hnl)
  obtain ⟨y0, y1, y2, y3, y4⟩ := hk1.out W (Below.refl _ _)
  by_cases hg : SndG g
  · rw [soundB_yes hg] at G0
    have b1 := hg.rules
    have b2 := hg.nonts
    have ht := terms_le g
    have hall : g.all = g.terms + g.nonts.length := rfl
    have G1 := hid (fun u (hu : Below W.heap.size W u) => idxRule _ g.rules u (hV.keep (bl_step hB1 hu)).rules (by omega) hg.right)
    have GR := hid (fun u (hu : Below W.heap.size W u) => markR g hg _ _ _ _ u (hV.keep (bl_step hB1 hu)))
    have GE := hid (fun u (hu : Below W.heap.size W u) => markE g hg _ _ _ _ u (hV.keep (bl_step hB1 hu)))
    have GF := hid (fun u (hu : Below W.heap.size W u) => firstC _ _ _ _ g g.start u (hV.keep (bl_step hB1 hu)) (by omega))
    have GX : Hid (∀ v (L : List Bool) u, MkV u v L → L.length = g.nonts.length → Calls Tryz.prog 34 #[v, .bool false] u fun e w' => ∃ i : Int, e = .returned (.int .i64 i) ∧ IdxF L i ∧ w' = u) := hid (fun v L u h hl => idxFalse v L u h (by omega))
    rcases rule_ex g.rules with hno | ⟨k, hk, hy1, hy2⟩
    · have hir := hid (fun i hi => idxr_all hno i hi)
      rcases Nat.eq_zero_or_pos g.nonts.length with n0 | n0
      · have hC := hid (ChkR.none (g := g) hg hno n0)
        clear hV hB1 k1 hb hg hnl hall
        obtain ⟨rn, hrn⟩ : ∃ n, Hid (g.rules.length = n) := ⟨_, hid rfl⟩
        obtain ⟨nn, hnn⟩ : ∃ n, Hid (g.nonts.length = n) := ⟨_, hid rfl⟩
        obtain ⟨st, hst⟩ : ∃ n, Hid (g.start = n) := ⟨_, hid rfl⟩
        obtain ⟨tm, htm⟩ : ∃ n, Hid (g.terms = n) := ⟨_, hid rfl⟩
        rw [hrn.out] at b1 hk1 G0 G1 GR GE GF hW y0 ht ⊢
        rw [hnn.out] at b2 hk1 G0 GR GE GF hW y1 n0 ⊢
        rw [hst.out] at hk1 G0 GR GE GF hW y4 ⊢
        rw [htm.out] at GR GE GF ht
        have n0z : ((nn : Int) == 0) = true := by rw [n0]; rfl
        clear n0 GR GE GF GX
        go_enter Tryz.func13, Tryz.ntmps13
        go_wp2_with (first
          | (go_at_call 11; refine G0.out.mono ?_; clear G0; rintro e w1 ⟨rfl, hc1⟩; obtain ⟨a0, a1, a2, a3, a4⟩ := hk1.out w1 hc1; have h1 := hid hc1; clear hc1)
          | (go_at_call 32; refine (G1.out _ h1.out).mono ?_; clear G1; rintro e w2 ⟨i, rfl, hi, hc2⟩; obtain rfl := hir.out i hi; have h2 := hid (bl_step h1.out hc2); obtain ⟨z0, z1, z2, z3, z4⟩ := hk1.out w2 h2.out; clear hc2 hi hir))
        go_ret2
        exact ⟨_, _, rfl, hC.out, bl_step hB.out h2.out⟩
      · rcases first_no (Rch g) g.terms g.nonts.length with hra | ⟨k, hk, hr1, hr2⟩
        · have hiR := hid (fun L hl hL i hi => idx_all (P := Rch g) hra L hl hL i hi)
          rcases first_no (Ends g) g.terms g.nonts.length with hea | ⟨k, hk, he1, he2⟩
          · have hiE := hid (fun L hl hL i hi => idx_all (P := Ends g) hea L hl hL i hi)
            have hC := hid (ChkR.fine (g := g) hg hno n0 (fun m h1 h2 => ⟨hra m h1 (by omega), hea m h1 (by omega)⟩))
            clear hV hB1 k1 hb hg hnl hall
            obtain ⟨rn, hrn⟩ : ∃ n, Hid (g.rules.length = n) := ⟨_, hid rfl⟩
            obtain ⟨nn, hnn⟩ : ∃ n, Hid (g.nonts.length = n) := ⟨_, hid rfl⟩
            obtain ⟨st, hst⟩ : ∃ n, Hid (g.start = n) := ⟨_, hid rfl⟩
            obtain ⟨tm, htm⟩ : ∃ n, Hid (g.terms = n) := ⟨_, hid rfl⟩
            rw [hrn.out] at b1 hk1 G0 G1 GR GE GF hW y0 ht ⊢
            rw [hnn.out] at b2 hk1 G0 GR GE GF hW y1 n0 ⊢
            rw [hst.out] at hk1 G0 GR GE GF hW y4 ⊢
            rw [htm.out] at GR GE GF ht hiR hiE
            have n0z : ((nn : Int) == 0) = false := by rw [beq_eq_false_iff_ne]; omega
            clear n0 GF
            go_enter Tryz.func13, Tryz.ntmps13
            go_wp2_with (first
              | (go_at_call 11; refine G0.out.mono ?_; clear G0; rintro e w1 ⟨rfl, hc1⟩; obtain ⟨a0, a1, a2, a3, a4⟩ := hk1.out w1 hc1; have h1 := hid hc1; clear hc1)
              | (go_at_call 32; refine (G1.out _ h1.out).mono ?_; clear G1; rintro e w2 ⟨i, rfl, hi, hc2⟩; obtain rfl := hir.out i hi; have h2 := hid (bl_step h1.out hc2); obtain ⟨z0, z1, z2, z3, z4⟩ := hk1.out w2 h2.out; clear hc2 hi hir)
              | (go_at_call 35; refine (GR.out _ h2.out).mono ?_; clear GR; rintro e w3 ⟨v3, L3, rfl, hv3, hl3, hr3, hc3⟩; have h3 := hid (bl_step h2.out hc3); have F1 := hid (GX.out v3 L3 w3 hv3 (by rw [hnn.out]; exact hl3)); have hi3 := hid (fun i hi => hiR.out L3 (by rw [hnn.out]; exact hl3) hr3 i hi); obtain ⟨c0, c1, c2, c3, c4⟩ := hk1.out w3 h3.out; obtain ⟨m3, rfl, -⟩ := id hv3; clear hc3 hr3 hv3 hl3)
              | (go_at_call 34; refine F1.out.mono ?_; clear F1; rintro e w4 ⟨i, rfl, hi, hw4⟩; subst w4; obtain rfl := hi3.out i hi; clear hi hi3)
              | (go_at_call 37; refine (GE.out _ h3.out).mono ?_; clear GE; rintro e w5 ⟨v5, L5, rfl, hv5, hl5, hr5, hc5⟩; have h5 := hid (bl_step h3.out hc5); have F2 := hid (GX.out v5 L5 w5 hv5 (by rw [hnn.out]; exact hl5)); have hi5 := hid (fun i hi => hiE.out L5 (by rw [hnn.out]; exact hl5) hr5 i hi); obtain ⟨d0, d1, d2, d3, d4⟩ := hk1.out w5 h5.out; obtain ⟨m5, rfl, -⟩ := id hv5; clear hc5 hr5 hv5 hl5)
              | (go_at_call 34; refine F2.out.mono ?_; clear F2; rintro e w6 ⟨i, rfl, hi, hw6⟩; subst w6; obtain rfl := hi5.out i hi; clear hi hi5))
            go_ret2
            exact ⟨_, _, rfl, hC.out, bl_step hB.out h5.out⟩
          · have hiE := hid (fun L hl hL i hi => idx_some (P := Ends g) hk he1 he2 L hl hL i hi)
            have hC := hid (ChkR.dry (g := g) ((g.terms : Int) + 1 + (k : Int)) hg hno n0 (fun m h1 h2 => hra m h1 (by omega)) (by omega) (by omega) he1 he2)
            have hkn : k ≤ 1000 := by omega
            clear hV hB1 k1 hb hg hnl hall
            obtain ⟨rn, hrn⟩ : ∃ n, Hid (g.rules.length = n) := ⟨_, hid rfl⟩
            obtain ⟨nn, hnn⟩ : ∃ n, Hid (g.nonts.length = n) := ⟨_, hid rfl⟩
            obtain ⟨st, hst⟩ : ∃ n, Hid (g.start = n) := ⟨_, hid rfl⟩
            obtain ⟨tm, htm⟩ : ∃ n, Hid (g.terms = n) := ⟨_, hid rfl⟩
            rw [hrn.out] at b1 hk1 G0 G1 GR GE GF hW y0 ht ⊢
            rw [hnn.out] at b2 hk1 G0 GR GE GF hW y1 n0 ⊢
            rw [hst.out] at hk1 G0 GR GE GF hW y4 ⊢
            rw [htm.out] at GR GE GF ht hiR hiE hC
            have n0z : ((nn : Int) == 0) = false := by rw [beq_eq_false_iff_ne]; omega
            clear n0 hk
            go_enter Tryz.func13, Tryz.ntmps13
            go_wp2_with (first
              | (go_at_call 11; refine G0.out.mono ?_; clear G0; rintro e w1 ⟨rfl, hc1⟩; obtain ⟨a0, a1, a2, a3, a4⟩ := hk1.out w1 hc1; have h1 := hid hc1; clear hc1)
              | (go_at_call 32; refine (G1.out _ h1.out).mono ?_; clear G1; rintro e w2 ⟨i, rfl, hi, hc2⟩; obtain rfl := hir.out i hi; have h2 := hid (bl_step h1.out hc2); obtain ⟨z0, z1, z2, z3, z4⟩ := hk1.out w2 h2.out; clear hc2 hi hir)
              | (go_at_call 35; refine (GR.out _ h2.out).mono ?_; clear GR; rintro e w3 ⟨v3, L3, rfl, hv3, hl3, hr3, hc3⟩; have h3 := hid (bl_step h2.out hc3); have F1 := hid (GX.out v3 L3 w3 hv3 (by rw [hnn.out]; exact hl3)); have hi3 := hid (fun i hi => hiR.out L3 (by rw [hnn.out]; exact hl3) hr3 i hi); obtain ⟨c0, c1, c2, c3, c4⟩ := hk1.out w3 h3.out; obtain ⟨m3, rfl, -⟩ := id hv3; clear hc3 hr3 hv3 hl3)
              | (go_at_call 34; refine F1.out.mono ?_; clear F1; rintro e w4 ⟨i, rfl, hi, hw4⟩; subst w4; obtain rfl := hi3.out i hi; clear hi hi3)
              | (go_at_call 37; refine (GE.out _ h3.out).mono ?_; clear GE; rintro e w5 ⟨v5, L5, rfl, hv5, hl5, hr5, hc5⟩; have h5 := hid (bl_step h3.out hc5); have F2 := hid (GX.out v5 L5 w5 hv5 (by rw [hnn.out]; exact hl5)); have hi5 := hid (fun i hi => hiE.out L5 (by rw [hnn.out]; exact hl5) hr5 i hi); obtain ⟨d0, d1, d2, d3, d4⟩ := hk1.out w5 h5.out; obtain ⟨m5, rfl, -⟩ := id hv5; clear hc5 hr5 hv5 hl5)
              | (go_at_call 34; refine F2.out.mono ?_; clear F2; rintro e w6 ⟨i, rfl, hi, hw6⟩; subst w6; obtain rfl := hi5.out i hi; clear hi hi5)
              | (go_at_call 36; refine (GF.out _ h5.out).mono ?_; clear GF; rintro e w7 ⟨rfl, hc7⟩; have h7 := hid (bl_step h5.out hc7); clear hc7))
            go_ret2
            exact ⟨_, _, rfl, hC.out, bl_step hB.out h7.out⟩
        · have hiR := hid (fun L hl hL i hi => idx_some (P := Rch g) hk hr1 hr2 L hl hL i hi)
          have hC := hid (ChkR.reach (g := g) ((g.terms : Int) + 1 + (k : Int)) hg hno n0 (by omega) (by omega) hr1 hr2)
          have hkn : k ≤ 1000 := by omega
          clear hV hB1 k1 hb hg hnl hall
          obtain ⟨rn, hrn⟩ : ∃ n, Hid (g.rules.length = n) := ⟨_, hid rfl⟩
          obtain ⟨nn, hnn⟩ : ∃ n, Hid (g.nonts.length = n) := ⟨_, hid rfl⟩
          obtain ⟨st, hst⟩ : ∃ n, Hid (g.start = n) := ⟨_, hid rfl⟩
          obtain ⟨tm, htm⟩ : ∃ n, Hid (g.terms = n) := ⟨_, hid rfl⟩
          rw [hrn.out] at b1 hk1 G0 G1 GR GE GF hW y0 ht ⊢
          rw [hnn.out] at b2 hk1 G0 GR GE GF hW y1 n0 ⊢
          rw [hst.out] at hk1 G0 GR GE GF hW y4 ⊢
          rw [htm.out] at GR GE GF ht hiR hC
          have n0z : ((nn : Int) == 0) = false := by rw [beq_eq_false_iff_ne]; omega
          clear n0 hk GE
          go_enter Tryz.func13, Tryz.ntmps13
          go_wp2_with (first
            | (go_at_call 11; refine G0.out.mono ?_; clear G0; rintro e w1 ⟨rfl, hc1⟩; obtain ⟨a0, a1, a2, a3, a4⟩ := hk1.out w1 hc1; have h1 := hid hc1; clear hc1)
            | (go_at_call 32; refine (G1.out _ h1.out).mono ?_; clear G1; rintro e w2 ⟨i, rfl, hi, hc2⟩; obtain rfl := hir.out i hi; have h2 := hid (bl_step h1.out hc2); obtain ⟨z0, z1, z2, z3, z4⟩ := hk1.out w2 h2.out; clear hc2 hi hir)
            | (go_at_call 35; refine (GR.out _ h2.out).mono ?_; clear GR; rintro e w3 ⟨v3, L3, rfl, hv3, hl3, hr3, hc3⟩; have h3 := hid (bl_step h2.out hc3); have F1 := hid (GX.out v3 L3 w3 hv3 (by rw [hnn.out]; exact hl3)); have hi3 := hid (fun i hi => hiR.out L3 (by rw [hnn.out]; exact hl3) hr3 i hi); obtain ⟨c0, c1, c2, c3, c4⟩ := hk1.out w3 h3.out; obtain ⟨m3, rfl, -⟩ := id hv3; clear hc3 hr3 hv3 hl3)
            | (go_at_call 34; refine F1.out.mono ?_; clear F1; rintro e w4 ⟨i, rfl, hi, hw4⟩; subst w4; obtain rfl := hi3.out i hi; clear hi hi3)
            | (go_at_call 36; refine (GF.out _ h3.out).mono ?_; clear GF; rintro e w5 ⟨rfl, hc5⟩; have h5 := hid (bl_step h3.out hc5); clear hc5))
          go_ret2
          exact ⟨_, _, rfl, hC.out, bl_step hB.out h5.out⟩
    · have hir := hid (fun i hi => idxr_some hk hy1 hy2 i hi)
      have hC := hid (ChkR.empty (g := g) k hk hg hy1 hy2)
      have hk9 : k ≤ 1000 := by omega
      clear hy1 hy2 hk
      clear hV hB1 k1 hb hg hnl hall
      obtain ⟨rn, hrn⟩ : ∃ n, Hid (g.rules.length = n) := ⟨_, hid rfl⟩
      obtain ⟨nn, hnn⟩ : ∃ n, Hid (g.nonts.length = n) := ⟨_, hid rfl⟩
      obtain ⟨st, hst⟩ : ∃ n, Hid (g.start = n) := ⟨_, hid rfl⟩
      obtain ⟨tm, htm⟩ : ∃ n, Hid (g.terms = n) := ⟨_, hid rfl⟩
      rw [hrn.out] at b1 hk1 G0 G1 GR GE GF hW y0 ht ⊢
      rw [hnn.out] at b2 hk1 G0 GR GE GF hW y1  ⊢
      rw [hst.out] at hk1 G0 GR GE GF hW y4 ⊢
      rw [htm.out] at GR GE GF ht
      clear GR GE GF GX
      go_enter Tryz.func13, Tryz.ntmps13
      go_wp2_with (first
        | (go_at_call 11; refine G0.out.mono ?_; clear G0; rintro e w1 ⟨rfl, hc1⟩; obtain ⟨a0, a1, a2, a3, a4⟩ := hk1.out w1 hc1; have h1 := hid hc1; clear hc1)
        | (go_at_call 32; refine (G1.out _ h1.out).mono ?_; clear G1; rintro e w2 ⟨i, rfl, hi, hc2⟩; obtain rfl := hir.out i hi; have h2 := hid (bl_step h1.out hc2); obtain ⟨z0, z1, z2, z3, z4⟩ := hk1.out w2 h2.out; clear hc2 hi hir))
      go_ret2
      exact ⟨_, _, rfl, hC.out, bl_step hB.out h2.out⟩
  · rw [soundB_no hg] at G0
    have hC := hid (ChkR.arg (g := g) hg)
    clear hV hB1 k1 hb hg hnl hk1
    generalize g.rules.length = rn at *
    generalize g.nonts.length = nn at *
    generalize g.start = st at *
    go_enter Tryz.func13, Tryz.ntmps13
    go_wp2_with (go_at_call 11; refine G0.out.mono ?_; clear G0; rintro e w1 ⟨rfl, hc1⟩; have h1 := hid hc1; clear hc1)
    go_ret2
    exact ⟨_, _, rfl, hC.out, bl_step hB.out h1.out⟩

end Go.Proofs.YthgbjhnknepefaaGreat
