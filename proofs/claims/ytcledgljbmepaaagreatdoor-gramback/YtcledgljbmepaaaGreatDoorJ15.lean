/- topiaryref12.Sym: a name's symbol. What is asked of package gram; topiarylaw12.wakes. same: of rules, productions, grammars. Package gram's reader, as a machine: words, rules, names, what is left to be done. -/
import Derived.Test.YtcledgljbmepaaaGreatDoorJ14
namespace Go.Proofs.YtcledgljbmepaaaGreatDoor
open Go.RowKit Go.Maps Go.Sort

def Gm.all (g : Gm) : Nat := g.terms + g.nonts.length
end Go.Proofs.YtcledgljbmepaaaGreatDoor
namespace Go.Proofs.YtcledgljbmepaaaGreatDoor
open Go.RowKit Go.Maps Go.Sort

/-- what the law of sound grammars asks -/
structure SoundG (g : Gm) : Prop where
  levels : g.levels.length = g.terms + 1
  start : 0 < g.nonts.length → (g.terms : Int) < g.start ∧ g.start ≤ (g.all : Int)
  names : ∀ i j : Nat, 1 ≤ i → i < j → j ≤ g.all → g.name (i : Int) ≠ g.name (j : Int)
  prods : ∀ p ∈ g.prods, (g.terms : Int) < p.left ∧ p.left ≤ (g.all : Int) ∧ 0 ≤ p.prec ∧ p.prec ≤ (g.terms : Int) ∧ p.right.length ≤ 8 ∧ ∀ k ∈ p.right, 1 ≤ k ∧ k ≤ (g.all : Int)
structure BndG (g : Gm) : Prop where
  rules : g.rules.length ≤ 1000
  nonts : g.nonts.length ≤ 1000
  levels : g.levels.length ≤ 1000
  prods : g.prods.length ≤ 1000
  re : ∀ r ∈ g.rules, r.re.length ≤ 1000
  right : ∀ p ∈ g.prods, p.right.length ≤ 1000
def ex1 : Txt := [116, 111, 107, 101, 110, 32, 97, 32, 47, 120, 47, 59, 32, 115, 58, 32, 97, 32, 115, 32, 124, 32, 59]
def ex2 : Txt := [115, 58, 32, 98, 59]
/-- what is asked of layer 4's reference -/
structure LowN : Prop where
  nums : ∀ (v v' : Value) (l : List Int) (u : World), Nums u v l → Nums u v' l → l.length ≤ 1000000 → Calls Tryz.prog 8 #[v, v'] u fun e w' => e = .returned (.bool true) ∧ Below u.heap.size u w'
/-- what is asked of gram.Parse: a grammar for each text, or none -/
structure PrsOK (prs : Txt → Option Gm) : Prop where
  yes : ∀ (s : Txt) (g : Gm) (u : World), s.length ≤ 1000000 → prs s = some g → Calls Tryz.prog 5 #[.string (strT s)] u fun e w' => ∃ rv nv lv pv, e = .returned (.tuple #[gmA rv nv lv pv g.start, .int .i64 0, .int .i64 0]) ∧ GmV w' rv nv lv pv g ∧ Below u.heap.size u w'
  no : ∀ (s : Txt) (u : World), s.length ≤ 1000000 → prs s = none → Calls Tryz.prog 5 #[.string (strT s)] u fun e w' => ∃ (ra na la pa : Option Addr) (rc nc lc pc : Nat) (st n er : Int), e = .returned (.tuple #[gmA (.slice ra 0 rc) (.slice na 0 nc) (.slice la 0 lc) (.slice pa 0 pc) st, .int .i64 n, .int .i64 er]) ∧ er ≠ 0 ∧ Below u.heap.size u w'
  ex : ∃ g, prs ex1 = some g ∧ g.start = 2 ∧ g.prods.length = 2 ∧ ∀ h : 0 < g.prods.length, g.prods[0].right = [1, 2]
  bad : ∀ u : World, Calls Tryz.prog 5 #[.string (strT ex2)] u fun e w' => ∃ (ra na la pa : Option Addr) (rc nc lc pc : Nat) (st : Int), e = .returned (.tuple #[gmA (.slice ra 0 rc) (.slice na 0 nc) (.slice la 0 lc) (.slice pa 0 pc) st, .int .i64 3, .int .i64 5]) ∧ Below u.heap.size u w'
  bnd : ∀ s g, prs s = some g → BndG g
theorem nums12 (w : World) : Nums (w.alloc (.cells #[.int .i64 1, .int .i64 2] 3)) (.slice (some ⟨w.heap.size, 0, none⟩) 2 2) [1, 2] :=
  ⟨_, 2, rfl, Nat.le_refl _, fun h => (by cases h), fun j hj => ⟨_, 0, rfl, by rw [World.size_alloc]; omega, by
    have hj : j = 0 ∨ j = 1 := by simp at hj; omega
    rcases hj with rfl | rfl
    · exact blk_cell (heap_new w _) rfl
    · exact blk_cell (heap_new w _) rfl⟩⟩
theorem cells5m {w : World} {b t : Nat} {x0 x1 x2 x3 x4 : Value} (h : w.heap[b]? = some (.cells #[x0, x1, x2, x3, x4] t (0, 0))) : w.cell? ⟨b, 0, none⟩ = some x0 ∧ w.cell? ⟨b, 1, none⟩ = some x1 ∧ w.cell? ⟨b, 2, none⟩ = some x2 ∧ w.cell? ⟨b, 3, none⟩ = some x3 ∧ w.cell? ⟨b, 4, none⟩ = some x4 :=
  ⟨blk_cell h rfl, blk_cell h rfl, blk_cell h rfl, blk_cell h rfl, blk_cell h rfl⟩
set_option maxRecDepth 20000 in
set_option maxHeartbeats 4000000 in
theorem wakes12 {prs : Txt → Option Gm} (L : LowN) (H : PrsOK prs) (w : World) : Calls Tryz.prog 4 #[] w fun e w' => e = .returned (.bool true) ∧ Below w.heap.size w w' := by
  obtain ⟨g, hg, hst, hpl, hpr⟩ := H.ex
  have G1 := hid (H.yes ex1 g w (by decide) hg)
  have G2 := hid (fun u => H.bad u)
  have GU := hid (fun v v' u h1 h2 => L.nums v v' [1, 2] u h1 h2 (by decide))
  rw [hst, show strT ex1 = ⟨#[116, 111, 107, 101, 110, 32, 97, 32, 47, 120, 47, 59, 32, 115, 58, 32, 97, 32, 115, 32, 124, 32, 59]⟩ from rfl] at G1
  rw [show strT ex2 = ⟨#[115, 58, 32, 98, 59]⟩ from rfl] at G2
  have hpr := hid hpr
  have hpl := hid hpl
  clear H L hg hst
  go_enter Tryz.func4, Tryz.ntmps4
  go_wp2_with (first
    | (go_at_call 5; refine G1.out.mono ?_; clear G1; rintro e w1 ⟨rv, nv, lv, pv, rfl, hV, hc1⟩; obtain ⟨ra, rc, hre⟩ := hV.rules.shape; obtain ⟨na, nc, hne⟩ := hV.nonts.shape; obtain ⟨la, lc, hle⟩ := hV.levels.shape; obtain ⟨pa, pc, hpe⟩ := hV.prods.shape; subst hre hne hle hpe; rw [hpl.out] at hV ⊢; have hc1 := hid hc1; have hV1 := hid (hV.keep (al' w1 (.cells #[.slice ra g.rules.length rc, .slice na g.nonts.length nc, .slice la g.levels.length lc, .slice pa 2 pc, .int .i64 2] 28))); have hk1 := hid (heap_new w1 (.cells #[.slice ra g.rules.length rc, .slice na g.nonts.length nc, .slice la g.levels.length lc, .slice pa 2 pc, .int .i64 2] 28)); have hw1 := hid (bl_step hc1.out (al' w1 (.cells #[.slice ra g.rules.length rc, .slice na g.nonts.length nc, .slice la g.levels.length lc, .slice pa 2 pc, .int .i64 2] 28))); clear hV)
    | (go_at_call 5; refine (G2.out _).mono ?_; clear G2; rintro e w2 ⟨ra', na', la', pa', rc', nc', lc', pc', st', rfl, hc2⟩; obtain ⟨W3, hW3⟩ : ∃ x, w2.alloc (.cells #[.slice ra' 0 rc', .slice na' 0 nc', .slice la' 0 lc', .slice pa' 0 pc', .int .i64 st'] 28) = x := ⟨_, rfl⟩; have hB3 : Below w2.heap.size w2 W3 := (by rw [← hW3]; exact al' w2 _); have hV2 := hid ((hV1.out.keep hc2).keep hB3); obtain ⟨y0, y1, y2, y3, y4⟩ := cells5m (hs_keep (hs_keep hk1.out hc2) hB3); have hw2 := hid (bl_step (bl_step hw1.out hc2) hB3); obtain ⟨b, o, hpe, -, v, x0, x1, x2, hN⟩ := hV2.out.prods.at (j := 0) (by rw [hpl.out]; decide); subst hpe; rw [hpr.out (by rw [hpl.out]; decide)] at hN; rw [Nat.zero_mul, Nat.add_zero] at x0 x1 x2; have hN3 := hid (hN.keep (al' W3 (.cells #[.int .i64 1, .int .i64 2] 3))); have hM3 := hid (nums12 W3); have hw3 := hid (bl_step hw2.out (al' W3 (.cells #[.int .i64 1, .int .i64 2] 3))); clear hN hV2 hB3 hc2 hk1 hV1)
    | (go_at_call 8; refine (GU.out _ _ _ hN3.out hM3.out).mono ?_; clear GU; rintro e w4 ⟨rfl, hc4⟩; have hc4 := hid hc4; have y9 := hid (keep_cell (bl_step (al' W3 (.cells #[.int .i64 1, .int .i64 2] 3)) hc4.out) y4); have y4 := y9.out))
  go_ret
  exact ⟨by simp, bl_step hw3.out hc4.out⟩

end Go.Proofs.YtcledgljbmepaaaGreatDoor
namespace Go.Proofs.YtcledgljbmepaaaGreatDoor
open Go.RowKit Go.Maps

noncomputable instance : DecidableEq Rl := fun _ _ => Classical.propDecidable _
noncomputable instance : DecidableEq Pd := fun _ _ => Classical.propDecidable _
noncomputable instance : DecidableEq Gm := fun _ _ => Classical.propDecidable _
theorem shapeC {w : World} {v : Value} {l : List Cel} (h : Cels w v l) : ∃ a c, v = .slice a l.length c := by obtain ⟨a, c, e, _⟩ := h; exact ⟨a, c, e⟩
theorem shapeN {w : World} {v : Value} {l : List Int} (h : Nums w v l) : ∃ a c, v = .slice a l.length c := by obtain ⟨a, c, e, _⟩ := h; exact ⟨a, c, e⟩
theorem cells3q {w : World} {b t : Nat} {x0 x1 x2 : Value} (h : w.heap[b]? = some (.cells #[x0, x1, x2] t (0, 0))) : w.cell? ⟨b, 0, none⟩ = some x0 ∧ w.cell? ⟨b, 1, none⟩ = some x1 ∧ w.cell? ⟨b, 2, none⟩ = some x2 := ⟨blk_cell h rfl, blk_cell h rfl, blk_cell h rfl⟩
set_option maxRecDepth 20000 in
set_option maxHeartbeats 4000000 in
theorem sameRuleC (r r' : Rl) (v v' : Value) (w : World) (h : Cels w v r.re) (h' : Cels w v' r'.re) (hl : r.re.length ≤ 1000000) (hl' : r'.re.length ≤ 1000000) :
    Calls Tryz.prog 38 #[.agg #[.string (strT r.name), v, .bool r.skip], .agg #[.string (strT r'.name), v', .bool r'.skip]] w fun e w' => e = .returned (.bool (decide (r = r'))) ∧ Below w.heap.size w w' := by
  obtain ⟨a, c, rfl⟩ := shapeC h
  obtain ⟨a', c', rfl⟩ := shapeC h'
  have hB1 := al' w (.cells #[.string (strT r.name), .slice a r.re.length c, .bool r.skip] 68)
  have hB2 := al' (w.alloc (.cells #[.string (strT r.name), .slice a r.re.length c, .bool r.skip] 68)) (.cells #[.string (strT r'.name), .slice a' r'.re.length c', .bool r'.skip] 68)
  have k1 := hs_keep (heap_new w (.cells #[.string (strT r.name), .slice a r.re.length c, .bool r.skip] 68)) hB2
  have k2 := heap_new (w.alloc (.cells #[.string (strT r.name), .slice a r.re.length c, .bool r.skip] 68)) (.cells #[.string (strT r'.name), .slice a' r'.re.length c', .bool r'.skip] 68)
  rw [World.size_alloc] at k2
  obtain ⟨x0, x1, x2⟩ := cells3q k1
  obtain ⟨y0, y1, y2⟩ := cells3q k2
  have hB := hid (bl_step hB1 hB2)
  have G := hid (eqCelC _ _ r.re r'.re _ (h.keep hB.out) (h'.keep hB.out) hl hl')
  clear h h' hB1 hB2 k1 k2 hl hl'
  obtain ⟨n1, q1, s1⟩ := r
  obtain ⟨n2, q2, s2⟩ := r'
  dsimp only at *
  by_cases e1 : n1 = n2
  · have e1z : ((strT n1).toList == (strT n2).toList) = true := by rw [strT_beq]; exact decide_eq_true e1
    by_cases e2 : s1 = s2
    · have e2z : (s1 == s2) = true := by rw [e2]; simp
      have hR : decide ((⟨n1, q1, s1⟩ : Rl) = ⟨n2, q2, s2⟩) = decide (q1 = q2) := by
        subst e1 e2
        by_cases e3 : q1 = q2
        · subst e3; simp
        · rw [decide_eq_false e3]; exact decide_eq_false (fun e => e3 (by injection e))
      rw [hR]
      clear hR e1z e2z
      subst e1 e2
      generalize decide (q1 = q2) = R at *
      skip
      go_enter Tryz.func38, Tryz.ntmps38
      go_wp2_with (go_at_call 58; refine G.out.mono ?_; clear G; rintro e w3 ⟨rfl, hc⟩; have hc := hid hc)
      go_ret
      exact ⟨by first | rfl | simp, bl_step hB.out hc.out⟩
    · have e2z : (s1 == s2) = false := by simpa using e2
      have hR : decide ((⟨n1, q1, s1⟩ : Rl) = ⟨n2, q2, s2⟩) = false := decide_eq_false (fun e => e2 (by injection e))
      rw [hR]
      clear hR G e1z e2
      subst e1
      skip
      go_enter Tryz.func38, Tryz.ntmps38
      go_wp2
      go_ret
      exact ⟨by first | rfl | simp, hB.out⟩
  · have e1z : ((strT n1).toList == (strT n2).toList) = false := by rw [strT_beq]; exact decide_eq_false e1
    have hR : decide ((⟨n1, q1, s1⟩ : Rl) = ⟨n2, q2, s2⟩) = false := decide_eq_false (fun e => e1 (by injection e))
    rw [hR]
    clear hR G e1
    skip
    go_enter Tryz.func38, Tryz.ntmps38
    go_wp2
    go_ret
    exact ⟨by first | rfl | simp, hB.out⟩
set_option maxRecDepth 20000 in
set_option maxHeartbeats 4000000 in
theorem sameProdC (r r' : Pd) (v v' : Value) (w : World) (h : Nums w v r.right) (h' : Nums w v' r'.right) (hl : r.right.length ≤ 1000000) (hl' : r'.right.length ≤ 1000000) :
    Calls Tryz.prog 42 #[.agg #[.int .i64 r.left, v, .int .i64 r.prec], .agg #[.int .i64 r'.left, v', .int .i64 r'.prec]] w fun e w' => e = .returned (.bool (decide (r = r'))) ∧ Below w.heap.size w w' := by
  obtain ⟨a, c, rfl⟩ := shapeN h
  obtain ⟨a', c', rfl⟩ := shapeN h'
  have hB1 := al' w (.cells #[.int .i64 r.left, .slice a r.right.length c, .int .i64 r.prec] 39)
  have hB2 := al' (w.alloc (.cells #[.int .i64 r.left, .slice a r.right.length c, .int .i64 r.prec] 39)) (.cells #[.int .i64 r'.left, .slice a' r'.right.length c', .int .i64 r'.prec] 39)
  have k1 := hs_keep (heap_new w (.cells #[.int .i64 r.left, .slice a r.right.length c, .int .i64 r.prec] 39)) hB2
  have k2 := heap_new (w.alloc (.cells #[.int .i64 r.left, .slice a r.right.length c, .int .i64 r.prec] 39)) (.cells #[.int .i64 r'.left, .slice a' r'.right.length c', .int .i64 r'.prec] 39)
  rw [World.size_alloc] at k2
  obtain ⟨x0, x1, x2⟩ := cells3q k1
  obtain ⟨y0, y1, y2⟩ := cells3q k2
  have hB := hid (bl_step hB1 hB2)
  have G := hid (eqIntC _ _ r.right r'.right _ (h.keep hB.out) (h'.keep hB.out) hl hl')
  clear h h' hB1 hB2 k1 k2 hl hl'
  obtain ⟨n1, q1, s1⟩ := r
  obtain ⟨n2, q2, s2⟩ := r'
  dsimp only at *
  by_cases e1 : n1 = n2
  · have e1z : (n1 == n2) = true := by rw [e1]; simp
    by_cases e2 : s1 = s2
    · have e2z : (s1 == s2) = true := by rw [e2]; simp
      have hR : decide ((⟨n1, q1, s1⟩ : Pd) = ⟨n2, q2, s2⟩) = decide (q1 = q2) := by
        subst e1 e2
        by_cases e3 : q1 = q2
        · subst e3; simp
        · rw [decide_eq_false e3]; exact decide_eq_false (fun e => e3 (by injection e))
      rw [hR]
      clear hR e1z e2z
      subst e1 e2
      generalize decide (q1 = q2) = R at *
      skip
      go_enter Tryz.func42, Tryz.ntmps42
      go_wp2_with (go_at_call 59; refine G.out.mono ?_; clear G; rintro e w3 ⟨rfl, hc⟩; have hc := hid hc)
      go_ret
      exact ⟨by first | rfl | simp, bl_step hB.out hc.out⟩
    · have e2z : (s1 == s2) = false := by simpa using e2
      have hR : decide ((⟨n1, q1, s1⟩ : Pd) = ⟨n2, q2, s2⟩) = false := decide_eq_false (fun e => e2 (by injection e))
      rw [hR]
      clear hR G e1z e2
      subst e1
      skip
      go_enter Tryz.func42, Tryz.ntmps42
      go_wp2
      go_ret
      exact ⟨by first | rfl | simp, hB.out⟩
  · have e1z : (n1 == n2) = false := by simpa using e1
    have hR : decide ((⟨n1, q1, s1⟩ : Pd) = ⟨n2, q2, s2⟩) = false := decide_eq_false (fun e => e1 (by injection e))
    rw [hR]
    clear hR G e1
    skip
    go_enter Tryz.func42, Tryz.ntmps42
    go_wp2
    go_ret
    exact ⟨by first | rfl | simp, hB.out⟩
set_option maxRecDepth 20000 in
set_option maxHeartbeats 4000000 in
theorem eqRulesC (v v' : Value) (l l' : List Rl) (w : World) (hA : Lst 3 RuleAt w v l) (hB : Lst 3 RuleAt w v' l') (hl : l.length ≤ 1000000) (_ : l'.length ≤ 1000000) (hr : ∀ x ∈ l, x.re.length ≤ 1000000) (hr' : ∀ x ∈ l', x.re.length ≤ 1000000) :
    Calls Tryz.prog 37 #[v, v', .func (.func 38) #[] #[]] w fun e w' => e = .returned (.bool (decide (l = l'))) ∧ Below w.heap.size w w' := by
  obtain ⟨aa, ca, rfl, _, _, hA⟩ := hA
  obtain ⟨ab, cb, rfl, _, _, hB⟩ := hB
  by_cases hlen : l.length = l'.length
  · have hy := hid (fun h => eqL_yes hlen h)
    have hn := hid (fun k h h' hne => eqL_no (l := l) (l' := l') (k := k) h h' hne)
    have hlz : ((l.length : Int) != (l'.length : Int)) = false := by rw [hlen]; simp
    have hlenH := hid hlen
    clear hlen
    have hA := hid hA
    have hB := hid hB
    generalize decide (l = l') = R at *
    go_enter Tryz.func37, Tryz.ntmps37
    go_wp2
    clear hlz
    go_loopw [17] (fun i wr => ∃ k : Nat, k ≤ l.length ∧ i = .int .i64 (k : Int) ∧ Hid (∀ j (h : j < l.length) (h' : j < l'.length), j < k → l[j] = l'[j]) ∧ Hid (Below w.heap.size w wr)) (fun i _ => l.length - (intOf i).toNat)
    case atStart => exact ⟨0, Nat.zero_le _, rfl, hid (fun j _ _ h => absurd h (Nat.not_lt_zero _)), hid (Below.refl _ w)⟩
    case round =>
      obtain ⟨k, hk, rfl, hal, hbl⟩ := hrel
      by_cases hlt : k < l.length
      · have hltz : (k : Int) < (l.length : Int) := by omega
        have hlt2 : k < l'.length := by have := hlenH.out; omega
        have hltz2 : (k : Int) < (l'.length : Int) := by omega
        obtain ⟨b1, o1, rfl, hb1, hc1⟩ := hA.out k hlt
        obtain ⟨b2, o2, rfl, hb2, hc2⟩ := hB.out k hlt2
        obtain ⟨u1, x0, x1, x2, hq1⟩ := hc1.keep hbl.out
        obtain ⟨u2, y0, y1, y2, hq2⟩ := hc2.keep hbl.out
        obtain ⟨a1, c1, rfl⟩ := shapeC hq1
        obtain ⟨a2, c2, rfl⟩ := shapeC hq2
        obtain ⟨V1, hV1⟩ : ∃ x, wr.alloc (.cells #[.string (strT l[k].name), .slice a1 l[k].re.length c1, .bool l[k].skip] 68) = x := ⟨_, rfl⟩
        have hD1 : Below wr.heap.size wr V1 := by rw [← hV1]; exact al' wr _
        have y0 := keep_cell hD1 y0
        have y1 := keep_cell hD1 y1
        have y2 := keep_cell hD1 y2
        obtain ⟨V2, hV2⟩ : ∃ x, V1.alloc (.cells #[.string (strT l'[k].name), .slice a2 l'[k].re.length c2, .bool l'[k].skip] 68) = x := ⟨_, rfl⟩
        have hD2 : Below V1.heap.size V1 V2 := by rw [← hV2]; exact al' V1 _
        have hk1 : V1.heap[wr.heap.size]? = some (.cells #[.string (strT l[k].name), .slice a1 l[k].re.length c1, .bool l[k].skip] 68) := by rw [← hV1]; exact heap_new wr _
        have hk2 : V2.heap[V1.heap.size]? = some (.cells #[.string (strT l'[k].name), .slice a2 l'[k].re.length c2, .bool l'[k].skip] 68) := by rw [← hV2]; exact heap_new V1 _
        obtain ⟨p0, p1, p2⟩ := cells3q (hs_keep hk1 hD2)
        obtain ⟨z0, z1, z2⟩ := cells3q hk2
        have hD := bl_step hD1 hD2
        have G := hid (sameRuleC l[k] l'[k] _ _ V2 (hq1.keep hD) (hq2.keep hD) (hr _ (List.getElem_mem hlt)) (hr' _ (List.getElem_mem hlt2)))
        have hbl := hid (bl_step hbl.out hD)
        clear hk1 hk2 hq1 hq2 hb1 hb2 hc1 hc2 hD hD1 hD2
        by_cases he : l[k] = l'[k]
        · have hnx : Hid (∀ j (h : j < l.length) (h' : j < l'.length), j < k + 1 → l[j] = l'[j]) := hid (fun j h h' hj => by
            rcases Nat.lt_or_ge j k with h9 | h9
            · exact hal.out j h h' h9
            · obtain rfl : j = k := by omega
              exact he)
          rw [decide_eq_true he] at G
          clear hal hy hn he
          generalize l[k] = x at *
          generalize l'[k] = y at *
          go_wp2_with (go_at_call 38; refine G.out.mono ?_; clear G; rintro e w3 ⟨rfl, hc⟩; have hc := hid hc)
          go_roundw
          case rel => exact ⟨k + 1, by omega, by go_num, hnx, hid (bl_step hbl.out hc.out)⟩
          case measure => simp [intOf]; omega
        · obtain rfl := hn.out k hlt hlt2 he
          rw [decide_eq_false he] at G
          clear hal hy hn he
          generalize l[k] = x at *
          generalize l'[k] = y at *
          go_wp2_with (go_at_call 38; refine G.out.mono ?_; clear G; rintro e w3 ⟨rfl, hc⟩; have hc := hid hc)
          go_ret
          exact ⟨rfl, bl_step hbl.out hc.out⟩
      · have hltz : ¬ (k : Int) < (l.length : Int) := by omega
        obtain rfl := hy.out (fun j h h' => hal.out j h h' (by omega))
        clear hA hB hy hn hal
        go_wp2
        go_ret
        exact ⟨rfl, hbl.out⟩
  · have hlz : ((l.length : Int) != (l'.length : Int)) = true := bne_iff_ne.2 (by omega)
    obtain h9 := eqL_len (l := l) (l' := l') hlen
    rw [h9]
    clear hA hB h9 hlen
    go_enter Tryz.func37, Tryz.ntmps37
    go_wp2
    go_ret
    exact ⟨rfl, Below.refl _ _⟩
set_option maxRecDepth 20000 in
set_option maxHeartbeats 4000000 in
theorem eqProdsC (v v' : Value) (l l' : List Pd) (w : World) (hA : Lst 3 ProdAt w v l) (hB : Lst 3 ProdAt w v' l') (hl : l.length ≤ 1000000) (_ : l'.length ≤ 1000000) (hr : ∀ x ∈ l, x.right.length ≤ 1000000) (hr' : ∀ x ∈ l', x.right.length ≤ 1000000) :
    Calls Tryz.prog 41 #[v, v', .func (.func 42) #[] #[]] w fun e w' => e = .returned (.bool (decide (l = l'))) ∧ Below w.heap.size w w' := by
  obtain ⟨aa, ca, rfl, _, _, hA⟩ := hA
  obtain ⟨ab, cb, rfl, _, _, hB⟩ := hB
  by_cases hlen : l.length = l'.length
  · have hy := hid (fun h => eqL_yes hlen h)
    have hn := hid (fun k h h' hne => eqL_no (l := l) (l' := l') (k := k) h h' hne)
    have hlz : ((l.length : Int) != (l'.length : Int)) = false := by rw [hlen]; simp
    have hlenH := hid hlen
    clear hlen
    have hA := hid hA
    have hB := hid hB
    generalize decide (l = l') = R at *
    go_enter Tryz.func41, Tryz.ntmps41
    go_wp2
    clear hlz
    go_loopw [17] (fun i wr => ∃ k : Nat, k ≤ l.length ∧ i = .int .i64 (k : Int) ∧ Hid (∀ j (h : j < l.length) (h' : j < l'.length), j < k → l[j] = l'[j]) ∧ Hid (Below w.heap.size w wr)) (fun i _ => l.length - (intOf i).toNat)
    case atStart => exact ⟨0, Nat.zero_le _, rfl, hid (fun j _ _ h => absurd h (Nat.not_lt_zero _)), hid (Below.refl _ w)⟩
    case round =>
      obtain ⟨k, hk, rfl, hal, hbl⟩ := hrel
      by_cases hlt : k < l.length
      · have hltz : (k : Int) < (l.length : Int) := by omega
        have hlt2 : k < l'.length := by have := hlenH.out; omega
        have hltz2 : (k : Int) < (l'.length : Int) := by omega
        obtain ⟨b1, o1, rfl, hb1, hc1⟩ := hA.out k hlt
        obtain ⟨b2, o2, rfl, hb2, hc2⟩ := hB.out k hlt2
        obtain ⟨u1, x0, x1, x2, hq1⟩ := hc1.keep hbl.out
        obtain ⟨u2, y0, y1, y2, hq2⟩ := hc2.keep hbl.out
        obtain ⟨a1, c1, rfl⟩ := shapeN hq1
        obtain ⟨a2, c2, rfl⟩ := shapeN hq2
        obtain ⟨V1, hV1⟩ : ∃ x, wr.alloc (.cells #[.int .i64 l[k].left, .slice a1 l[k].right.length c1, .int .i64 l[k].prec] 39) = x := ⟨_, rfl⟩
        have hD1 : Below wr.heap.size wr V1 := by rw [← hV1]; exact al' wr _
        have y0 := keep_cell hD1 y0
        have y1 := keep_cell hD1 y1
        have y2 := keep_cell hD1 y2
        obtain ⟨V2, hV2⟩ : ∃ x, V1.alloc (.cells #[.int .i64 l'[k].left, .slice a2 l'[k].right.length c2, .int .i64 l'[k].prec] 39) = x := ⟨_, rfl⟩
        have hD2 : Below V1.heap.size V1 V2 := by rw [← hV2]; exact al' V1 _
        have hk1 : V1.heap[wr.heap.size]? = some (.cells #[.int .i64 l[k].left, .slice a1 l[k].right.length c1, .int .i64 l[k].prec] 39) := by rw [← hV1]; exact heap_new wr _
        have hk2 : V2.heap[V1.heap.size]? = some (.cells #[.int .i64 l'[k].left, .slice a2 l'[k].right.length c2, .int .i64 l'[k].prec] 39) := by rw [← hV2]; exact heap_new V1 _
        obtain ⟨p0, p1, p2⟩ := cells3q (hs_keep hk1 hD2)
        obtain ⟨z0, z1, z2⟩ := cells3q hk2
        have hD := bl_step hD1 hD2
        have G := hid (sameProdC l[k] l'[k] _ _ V2 (hq1.keep hD) (hq2.keep hD) (hr _ (List.getElem_mem hlt)) (hr' _ (List.getElem_mem hlt2)))
        have hbl := hid (bl_step hbl.out hD)
        clear hk1 hk2 hq1 hq2 hb1 hb2 hc1 hc2 hD hD1 hD2
        by_cases he : l[k] = l'[k]
        · have hnx : Hid (∀ j (h : j < l.length) (h' : j < l'.length), j < k + 1 → l[j] = l'[j]) := hid (fun j h h' hj => by
            rcases Nat.lt_or_ge j k with h9 | h9
            · exact hal.out j h h' h9
            · obtain rfl : j = k := by omega
              exact he)
          rw [decide_eq_true he] at G
          clear hal hy hn he
          generalize l[k] = x at *
          generalize l'[k] = y at *
          go_wp2_with (go_at_call 42; refine G.out.mono ?_; clear G; rintro e w3 ⟨rfl, hc⟩; have hc := hid hc)
          go_roundw
          case rel => exact ⟨k + 1, by omega, by go_num, hnx, hid (bl_step hbl.out hc.out)⟩
          case measure => simp [intOf]; omega
        · obtain rfl := hn.out k hlt hlt2 he
          rw [decide_eq_false he] at G
          clear hal hy hn he
          generalize l[k] = x at *
          generalize l'[k] = y at *
          go_wp2_with (go_at_call 42; refine G.out.mono ?_; clear G; rintro e w3 ⟨rfl, hc⟩; have hc := hid hc)
          go_ret
          exact ⟨rfl, bl_step hbl.out hc.out⟩
      · have hltz : ¬ (k : Int) < (l.length : Int) := by omega
        obtain rfl := hy.out (fun j h h' => hal.out j h h' (by omega))
        clear hA hB hy hn hal
        go_wp2
        go_ret
        exact ⟨rfl, hbl.out⟩
  · have hlz : ((l.length : Int) != (l'.length : Int)) = true := bne_iff_ne.2 (by omega)
    obtain h9 := eqL_len (l := l) (l' := l') hlen
    rw [h9]
    clear hA hB h9 hlen
    go_enter Tryz.func41, Tryz.ntmps41
    go_wp2
    go_ret
    exact ⟨rfl, Below.refl _ _⟩
set_option maxRecDepth 20000 in
set_option maxHeartbeats 4000000 in
theorem sameC (g h : Gm) (rv nv lv pv rv' nv' lv' pv' : Value) (w : World) (hV : GmV w rv nv lv pv g) (hV' : GmV w rv' nv' lv' pv' h) (hb : BndG g) (hb' : BndG h) :
    Calls Tryz.prog 15 #[gmA rv nv lv pv g.start, gmA rv' nv' lv' pv' h.start] w fun e w' => e = .returned (.bool (decide (g = h))) ∧ Below w.heap.size w w' := by
  obtain ⟨ra, rc, rfl⟩ := hV.rules.shape
  obtain ⟨na, nc, rfl⟩ := hV.nonts.shape
  obtain ⟨la, lc, rfl⟩ := hV.levels.shape
  obtain ⟨pa, pc, rfl⟩ := hV.prods.shape
  obtain ⟨ra', rc', rfl⟩ := hV'.rules.shape
  obtain ⟨na', nc', rfl⟩ := hV'.nonts.shape
  obtain ⟨la', lc', rfl⟩ := hV'.levels.shape
  obtain ⟨pa', pc', rfl⟩ := hV'.prods.shape
  have hB1 := al' w (.cells #[.slice ra g.rules.length rc, .slice na g.nonts.length nc, .slice la g.levels.length lc, .slice pa g.prods.length pc, .int .i64 g.start] 28)
  have hB2 := al' (w.alloc (.cells #[.slice ra g.rules.length rc, .slice na g.nonts.length nc, .slice la g.levels.length lc, .slice pa g.prods.length pc, .int .i64 g.start] 28)) (.cells #[.slice ra' h.rules.length rc', .slice na' h.nonts.length nc', .slice la' h.levels.length lc', .slice pa' h.prods.length pc', .int .i64 h.start] 28)
  have k1 := hs_keep (heap_new w (.cells #[.slice ra g.rules.length rc, .slice na g.nonts.length nc, .slice la g.levels.length lc, .slice pa g.prods.length pc, .int .i64 g.start] 28)) hB2
  have k2 := heap_new (w.alloc (.cells #[.slice ra g.rules.length rc, .slice na g.nonts.length nc, .slice la g.levels.length lc, .slice pa g.prods.length pc, .int .i64 g.start] 28)) (.cells #[.slice ra' h.rules.length rc', .slice na' h.nonts.length nc', .slice la' h.levels.length lc', .slice pa' h.prods.length pc', .int .i64 h.start] 28)
  rw [World.size_alloc] at k2
  have hB := hid (bl_step hB1 hB2)
  have hKp := hid (fun u (hu : Below w.heap.size w u) => (⟨hV.keep hu, hV'.keep hu⟩ : _ ∧ _))
  have GR := hid (fun u (hu : Below w.heap.size w u) => eqRulesC _ _ g.rules h.rules u (hKp.out u hu).1.rules (hKp.out u hu).2.rules (by have := hb.rules; omega) (by have := hb'.rules; omega) (fun x hx => by have := hb.re x hx; omega) (fun x hx => by have := hb'.re x hx; omega))
  have GN := hid (fun u (hu : Below w.heap.size w u) => eqStrC _ _ g.nonts h.nonts u (hKp.out u hu).1.nonts (hKp.out u hu).2.nonts (by have := hb.nonts; omega) (by have := hb'.nonts; omega))
  have GL := hid (fun u (hu : Below w.heap.size w u) => eqLevC _ _ g.levels h.levels u (hKp.out u hu).1.levels (hKp.out u hu).2.levels (by have := hb.levels; omega) (by have := hb'.levels; omega))
  have GP := hid (fun u (hu : Below w.heap.size w u) => eqProdsC _ _ g.prods h.prods u (hKp.out u hu).1.prods (hKp.out u hu).2.prods (by have := hb.prods; omega) (by have := hb'.prods; omega) (fun x hx => by have := hb.right x hx; omega) (fun x hx => by have := hb'.right x hx; omega))
  obtain ⟨W, hW⟩ : ∃ x, (w.alloc (.cells #[.slice ra g.rules.length rc, .slice na g.nonts.length nc, .slice la g.levels.length lc, .slice pa g.prods.length pc, .int .i64 g.start] 28)).alloc (.cells #[.slice ra' h.rules.length rc', .slice na' h.nonts.length nc', .slice la' h.levels.length lc', .slice pa' h.prods.length pc', .int .i64 h.start] 28) = x := ⟨_, rfl⟩
  rw [hW] at hB k1 k2
  have hk1 := hid k1
  have hk2 := hid k2
  obtain ⟨x0, x1, x2, x3, x4⟩ := cells5m k1
  obtain ⟨y0, y1, y2, y3, y4⟩ := cells5m k2
  clear hV hV' hb hb' hB1 hB2 k1 k2
  have hst : Hid (decide (g = h) = (decide (g.rules = h.rules) && (decide (g.nonts = h.nonts) && (decide (g.levels = h.levels) && (decide (g.prods = h.prods) && (g.start == h.start)))))) := hid (by
    obtain ⟨a1, a2, a3, a4, a5⟩ := g
    obtain ⟨b1, b2, b3, b4, b5⟩ := h
    by_cases e1 : a1 = b1 <;> by_cases e2 : a2 = b2 <;> by_cases e3 : a3 = b3 <;> by_cases e4 : a4 = b4 <;> by_cases e5 : a5 = b5 <;> simp [e1, e2, e3, e4, e5])
  rw [hst.out]
  clear hst
  generalize decide (g.rules = h.rules) = R1 at *
  generalize decide (g.nonts = h.nonts) = R2 at *
  generalize decide (g.levels = h.levels) = R3 at *
  generalize decide (g.prods = h.prods) = R4 at *
  clear hKp
  generalize g.rules.length = n1 at *
  generalize g.nonts.length = n2 at *
  generalize g.levels.length = n3 at *
  generalize g.prods.length = n4 at *
  generalize h.rules.length = m1 at *
  generalize h.nonts.length = m2 at *
  generalize h.levels.length = m3 at *
  generalize h.prods.length = m4 at *
  generalize g.start = s1 at *
  generalize h.start = s2 at *
  cases R1 <;> cases R2 <;> cases R3 <;> cases R4 <;>
  · go_enter Tryz.func15, Tryz.ntmps15
    go_wp2_with (first
      | (go_at_call 37; refine (GR.out _ hB.out).mono ?_; clear GR; rintro e w1 ⟨rfl, hc⟩; obtain ⟨p0, p1, p2, p3, p4⟩ := cells5m (hs_keep hk1.out hc); obtain ⟨q0, q1, q2, q3, q4⟩ := cells5m (hs_keep hk2.out hc); have g1 := hid (hs_keep hk1.out hc); have g2 := hid (hs_keep hk2.out hc); have hD := hid (bl_step hB.out hc); clear hB hk1 hk2 x0 x1 x2 x3 x4 y0 y1 y2 y3 y4; have hB := hD; have hk1 := g1; have hk2 := g2; clear hD g1 g2)
      | (go_at_call 39; refine (GN.out _ hB.out).mono ?_; clear GN; rintro e w1 ⟨rfl, hc⟩; obtain ⟨x0, x1, x2, x3, x4⟩ := cells5m (hs_keep hk1.out hc); obtain ⟨y0, y1, y2, y3, y4⟩ := cells5m (hs_keep hk2.out hc); have g1 := hid (hs_keep hk1.out hc); have g2 := hid (hs_keep hk2.out hc); have hD := hid (bl_step hB.out hc); clear hB hk1 hk2 p0 p1 p2 p3 p4 q0 q1 q2 q3 q4; have hB := hD; have hk1 := g1; have hk2 := g2; clear hD g1 g2)
      | (go_at_call 40; refine (GL.out _ hB.out).mono ?_; clear GL; rintro e w1 ⟨rfl, hc⟩; obtain ⟨p0, p1, p2, p3, p4⟩ := cells5m (hs_keep hk1.out hc); obtain ⟨q0, q1, q2, q3, q4⟩ := cells5m (hs_keep hk2.out hc); have g1 := hid (hs_keep hk1.out hc); have g2 := hid (hs_keep hk2.out hc); have hD := hid (bl_step hB.out hc); clear hB hk1 hk2 x0 x1 x2 x3 x4 y0 y1 y2 y3 y4; have hB := hD; have hk1 := g1; have hk2 := g2; clear hD g1 g2)
      | (go_at_call 41; refine (GP.out _ hB.out).mono ?_; clear GP; rintro e w1 ⟨rfl, hc⟩; obtain ⟨x0, x1, x2, x3, x4⟩ := cells5m (hs_keep hk1.out hc); obtain ⟨y0, y1, y2, y3, y4⟩ := cells5m (hs_keep hk2.out hc); have g1 := hid (hs_keep hk1.out hc); have g2 := hid (hs_keep hk2.out hc); have hD := hid (bl_step hB.out hc); clear hB hk1 hk2 p0 p1 p2 p3 p4 q0 q1 q2 q3 q4; have hB := hD; have hk1 := g1; have hk2 := g2; clear hD g1 g2))
    go_ret
    exact ⟨by simp, hB.out⟩

end Go.Proofs.YtcledgljbmepaaaGreatDoor
namespace Go.Proofs.YtcledgljbmepaaaGreatDoor

def kTok : Txt := [116, 111, 107, 101, 110]
def kSkip : Txt := [115, 107, 105, 112]
def kStart : Txt := [115, 116, 97, 114, 116]
def kLeft : Txt := [108, 101, 102, 116]
def kRight : Txt := [114, 105, 103, 104, 116]
def kNone : Txt := [110, 111, 110, 101]
/-- the side that a word gives -/
def sdN (t : Txt) : Nat := if t = kLeft then 1 else if t = kRight then 2 else if t = kNone then 3 else 0
def kwB (t : Txt) : Bool := decide (t = kTok) || decide (t = kSkip) || decide (t = kStart) || decide (0 < sdN t)
theorem sdN_le (t : Txt) : sdN t ≤ 3 := by unfold sdN; split <;> (try split) <;> (try split) <;> omega
/-- what regex.Parse answers: cells, and an error -/
def rxA (t : Txt) : List Cel × Int := if 200 < t.length then ([], 3) else match rowsP t with
  | some (r, []) => if 60 < (post r).length then ([], 3) else (post r, 0)
  | _ => ([], 1)
/-- what a word leaves to be done: 1 once, 2 a level (power, side), 3 start (1: a second one), 4 its name, 5 a symbol (of which production), 6 behind % -/
structure Stp where
  k : Nat
  w : Wd
  a : Nat
  b : Nat
/-- the reader -/
structure RS where
  ws : List Wd
  rules : List Rl
  nonts : List Txt
  prods : List Nat
  levels : Nat
  starts : Nat
  skips : List Wd
  terms : List Wd
  nons : List Wd
  later : List Stp
  pl : Nat
  err : Int
def RS.hd (st : RS) : Wd := st.ws.headD (0, 0, [])
def RS.give (st : RS) (p : Nat) (e : Int) : RS := if st.err = 0 then { st with pl := p, err := e } else st
def RS.take (st : RS) (may : Bool) : RS := if may then { st with ws := st.ws.tail } else st.give st.hd.2.1 1
def RS.atN (st : RS) : Bool := decide (st.hd.1 = 1) && !kwB st.hd.2.2
def RS.atS (st : RS) (t : Txt) : Bool := decide (st.hd.1 = 3) && decide (st.hd.2.2 = t)
def RS.tkN (st : RS) : RS := st.take st.atN
def RS.tkS (st : RS) (t : Txt) : RS := st.take (st.atS t)
def RS.thn (st : RS) (s : Stp) : RS := { st with later := st.later ++ [s] }
def RS.once (st : RS) (w : Wd) : RS := st.thn ⟨1, w, 0, 0⟩
def RS.fail (st : RS) (p : Nat) (e : Int) : RS := if e = 0 then st else st.give p e
def RS.cells (st : RS) : RS := (st.take (decide (st.hd.1 = 2))).fail st.hd.2.1 (rxA st.hd.2.2).2
def RS.full (st : RS) (b : Bool) (p : Nat) : RS := if b then st.give p 3 else st
def RS.addR (st : RS) (r : Rl) : RS := { st with rules := st.rules ++ [r] }
def RS.addW (st : RS) (w : Wd) (sk : Bool) : RS := if sk then { st with skips := st.skips ++ [w] } else { st with terms := st.terms ++ [w] }
def RS.addN (st : RS) (t : Txt) : RS := { st with nonts := st.nonts ++ [t] }
def RS.addO (st : RS) (w : Wd) : RS := { st with nons := st.nons ++ [w] }
def RS.addP (st : RS) : RS := { st with prods := st.prods ++ [st.nonts.length] }
def RS.rule2 (st : RS) (f w : Wd) : RS :=
  ((((st.cells.tkS [59]).addR ⟨w.2.2, (rxA st.hd.2.2).1, decide (f.2.2 = kSkip)⟩).addW w (decide (f.2.2 = kSkip))).once w)
def RS.rule1 (st : RS) : RS := (st.take true).full (decide (st.rules.length = 16)) st.hd.2.1
def RS.rule (st : RS) : RS := st.rule1.tkN.rule2 st.hd st.rule1.hd
def RS.lvd (st : RS) (p s : Nat) : RS := st.tkN.thn ⟨2, st.hd, p, s⟩
def RS.lvds (p s : Nat) : Nat → RS → RS
  | 0, st => st
  | n + 1, st => if st.atN then RS.lvds p s n (st.lvd p s) else st
def RS.lv1 (st : RS) : RS := { st with levels := st.levels + 1 }
def RS.level (st : RS) : RS := let s3 := (st.lv1.take true).lvd (st.levels + 1) (sdN st.hd.2.2)
  (RS.lvds (st.levels + 1) (sdN st.hd.2.2) s3.ws.length s3).tkS [59]
def RS.st1 (st : RS) : RS := { st with starts := st.starts + 1 }
def RS.start (st : RS) : RS := let s3 := (st.st1.take true).thn ⟨3, st.hd, if 1 < st.starts + 1 then 1 else 0, 0⟩
  (s3.tkN.tkS [59]).thn ⟨4, s3.hd, 0, 0⟩
def RS.inA (st : RS) : Bool := st.atN || (st.atS [37] || (st.atS [124] || st.atS [59]))
def RS.symb (st : RS) (pr : Nat) : RS := st.tkN.thn ⟨5, st.hd, pr, 0⟩
def RS.prec (st : RS) (pr : Nat) : RS := st.tkN.thn ⟨6, st.hd, pr, 0⟩
def RS.syms (pr : Nat) : Nat → Nat → RS → RS
  | 0, _, st => st
  | f + 1, n, st => if st.atN then RS.syms pr f (n + 1) ((st.full (decide (n = 8)) st.hd.2.1).symb pr) else st
def RS.pct (st : RS) (pr : Nat) : RS := if st.atS [37] then (st.tkS [37]).prec pr else st
def RS.alt1 (st : RS) : RS := (st.full (decide (st.prods.length = 40) && st.inA) st.hd.2.1).addP
def RS.alt (st : RS) : RS := (RS.syms st.prods.length st.alt1.ws.length 0 st.alt1).pct st.prods.length
def RS.alts : Nat → RS → RS
  | 0, st => st
  | f + 1, st => if st.atS [124] then RS.alts f (st.tkS [124]).alt else st
def RS.nont1 (st : RS) : RS := (((((st.tkN.full (decide (st.nonts.length = 16)) st.hd.2.1).tkS [58]).addN st.hd.2.2).addO st.hd).once st.hd).alt
def RS.nont (st : RS) : RS := (RS.alts st.nont1.ws.length st.nont1).tkS [59]
def RS.item (st : RS) : RS := if st.hd.1 ≠ 1 then st.give st.hd.2.1 1 else if st.hd.2.2 = kTok ∨ st.hd.2.2 = kSkip then st.rule else if st.hd.2.2 = kStart then st.start else if 0 < sdN st.hd.2.2 then st.level else st.nont
def RS.items : Nat → RS → RS
  | 0, st => st
  | f + 1, st => if st.err = 0 ∧ st.hd.1 ≠ 0 then RS.items f st.item else st
def RS.init (ws : List Wd) : RS := ⟨ws, [], [], [], 0, 0, [], [], [], [], 0, 0⟩
/-- who has a name: where it is first told, which terminal, which nonterminal -/
abbrev Ow := Nat × Nat × Nat
def ownA (o : Option Ow) (p t n : Nat) : Ow := match o with
  | none => (p, t, n)
  | some (a, t', n') => (if p < a then p else a, max t' t, max n' n)
def ownM (M : Txt → Option Ow) (w : Wd) (t n : Nat) : Txt → Option Ow := fun x => if x = w.2.2 then some (ownA (M x) w.2.1 t n) else M x
/-- all that are told, with their numbers -/
def numF (k : Nat) : List Wd → List (Wd × Nat × Nat)
  | [] => []
  | w :: l => (w, k + 1, 0) :: numF (k + 1) l
def numN (k : Nat) : List Wd → List (Wd × Nat × Nat)
  | [] => []
  | w :: l => (w, 0, k + 1) :: numN (k + 1) l
def RS.told (st : RS) : List (Wd × Nat × Nat) := st.skips.map (fun w => (w, 0, 0)) ++ (numF 0 st.terms ++ numN st.terms.length st.nons)
def ownL (l : List (Wd × Nat × Nat)) (M : Txt → Option Ow) : Txt → Option Ow := l.foldl (fun M x => ownM M x.1 x.2.1 x.2.2) M
def RS.fnd (st : RS) (t : Txt) : Ow := (ownL st.told (fun _ => none) t).getD (0, 0, 0)
/-- what is made of a grammar when all names are known -/
structure FS where
  levels : List (Int × Int)
  prods : List Pd
  start : Int
  pl : Nat
  err : Int
def modP (l : List Pd) (k : Nat) (f : Pd → Pd) : List Pd := match l[k]? with
  | some p => l.set k (f p)
  | none => l
def stpF (F : Txt → Ow) (s : Stp) (f : FS) : FS × Int :=
  if s.k = 1 then (f, if (F s.w.2.2).1 < s.w.2.1 then 6 else 0)
  else if s.k = 2 then (if (F s.w.2.2).2.1 = 0 then (f, 5) else if 0 < (f.levels.getD (F s.w.2.2).2.1 (0, 0)).1 then (f, 6) else ({ f with levels := f.levels.set (F s.w.2.2).2.1 ((s.a : Int), (s.b : Int)) }, 0))
  else if s.k = 3 then (f, if s.a = 0 then 0 else 6)
  else if s.k = 4 then ({ f with start := ((F s.w.2.2).2.2 : Int) }, if (F s.w.2.2).2.2 = 0 then 5 else 0)
  else if s.k = 5 then (if 0 < (F s.w.2.2).2.1 then ({ f with prods := modP f.prods s.a fun p => ⟨p.left, p.right ++ [((F s.w.2.2).2.1 : Int)], ((F s.w.2.2).2.1 : Int)⟩ }, 0) else if 0 < (F s.w.2.2).2.2 then ({ f with prods := modP f.prods s.a fun p => ⟨p.left, p.right ++ [((F s.w.2.2).2.2 : Int)], p.prec⟩ }, 0) else (f, 5))
  else if (F s.w.2.2).2.1 = 0 then (f, 5) else ({ f with prods := modP f.prods s.a fun p => ⟨p.left, p.right, ((F s.w.2.2).2.1 : Int)⟩ }, 0)
def FS.fail (f : FS) (p : Nat) (e : Int) : FS := if e = 0 then f else { f with pl := p, err := e }
def setL (F : Txt → Ow) : List Stp → FS → FS
  | [], f => f
  | s :: l, f => if f.err ≠ 0 then f else setL F l ((stpF F s f).1.fail s.w.2.1 (stpF F s f).2)
def RS.trm (st : RS) : Nat := trmK st.rules st.rules.length
def RS.fs (st : RS) : FS := ⟨List.replicate (st.trm + 1) (0, 0), st.prods.map fun (l : Nat) => ⟨(l : Int) + (st.trm : Int), [], 0⟩, if 0 < st.nonts.length then (st.trm : Int) + 1 else 0, st.pl, st.err⟩
def RS.settle (st : RS) : FS := setL st.fnd st.later st.fs
def wsE (s : Txt) : List Wd := (wrdA s).1 ++ [(0, s.length, [])]
def rdS (s : Txt) : RS := RS.items (wsE s).length (RS.init (wsE s))
def prsG (s : Txt) : Gm := ⟨(rdS s).rules, (rdS s).nonts, (rdS s).settle.levels, (rdS s).settle.prods, (rdS s).settle.start⟩
def prsE (s : Txt) : Nat × Int := if (wrdA s).2.2 = 0 then ((rdS s).settle.pl, (rdS s).settle.err) else (wrdA s).2
def prs (s : Txt) : Option Gm := if (prsE s).2 = 0 then some (prsG s) else none

end Go.Proofs.YtcledgljbmepaaaGreatDoor
