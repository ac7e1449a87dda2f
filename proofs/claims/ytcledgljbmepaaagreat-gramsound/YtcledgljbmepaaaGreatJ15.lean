/- What is asked of package gram; topiarylaw12.wakes. What is asked of layer 4's reference, kept; right rules are told to be right. gram.sides, side, keyword. Slices copied: any rows; rows of three of which the middle one changes. -/
import Derived.Test.YtcledgljbmepaaaGreatJ14
namespace Go.Proofs.YtcledgljbmepaaaGreat
open Go.RowKit Go.Maps Go.Sort

/-- what the law of sound grammars asks -/
structure SoundG (g : Gm) : Prop where
  levels : g.levels.length = g.terms + 1
  start : 0 < g.nonts.length → (g.terms : Int) < g.start ∧ g.start ≤ (g.all : Int)
  names : ∀ i j : Nat, 1 ≤ i → i < j → j ≤ g.all → g.name (i : Int) ≠ g.name (j : Int)
  prods : ∀ p ∈ g.prods, (g.terms : Int) < p.left ∧ p.left ≤ (g.all : Int) ∧ 0 ≤ p.prec ∧ p.prec ≤ (g.terms : Int) ∧ p.right.length ≤ 8 ∧ ∀ k ∈ p.right, 1 ≤ k ∧ k ≤ (g.all : Int)
structure BndG (g : Gm) : Prop where
  rules : g.rules.length ≤ 1000
  nonts : g.nonts.length ≤ 1000
  levels : g.levels.length ≤ 1000
  prods : g.prods.length ≤ 1000
  re : ∀ r ∈ g.rules, r.re.length ≤ 1000
  right : ∀ p ∈ g.prods, p.right.length ≤ 1000
def ex1 : Txt := [116, 111, 107, 101, 110, 32, 97, 32, 47, 120, 47, 59, 32, 115, 58, 32, 97, 32, 115, 32, 124, 32, 59]
def ex2 : Txt := [115, 58, 32, 98, 59]
/-- what is asked of layer 4's reference -/
structure LowN : Prop where
  nums : ∀ (v v' : Value) (l : List Int) (u : World), Nums u v l → Nums u v' l → l.length ≤ 1000000 → Calls Tryz.prog 15 #[v, v'] u fun e w' => e = .returned (.bool true) ∧ Below u.heap.size u w'
/-- what is asked of gram.Parse: a grammar for each text, or none -/
structure PrsOK (prs : Txt → Option Gm) : Prop where
  yes : ∀ (s : Txt) (g : Gm) (u : World), s.length ≤ 1000000 → prs s = some g → Calls Tryz.prog 12 #[.string (strT s)] u fun e w' => ∃ rv nv lv pv, e = .returned (.tuple #[gmA rv nv lv pv g.start, .int .i64 0, .int .i64 0]) ∧ GmV w' rv nv lv pv g ∧ Below u.heap.size u w'
  no : ∀ (s : Txt) (u : World), s.length ≤ 1000000 → prs s = none → Calls Tryz.prog 12 #[.string (strT s)] u fun e w' => ∃ (ra na la pa : Option Addr) (rc nc lc pc : Nat) (st n er : Int), e = .returned (.tuple #[gmA (.slice ra 0 rc) (.slice na 0 nc) (.slice la 0 lc) (.slice pa 0 pc) st, .int .i64 n, .int .i64 er]) ∧ er ≠ 0 ∧ Below u.heap.size u w'
  ex : ∃ g, prs ex1 = some g ∧ g.start = 2 ∧ g.prods.length = 2 ∧ ∀ h : 0 < g.prods.length, g.prods[0].right = [1, 2]
  bad : ∀ u : World, Calls Tryz.prog 12 #[.string (strT ex2)] u fun e w' => ∃ (ra na la pa : Option Addr) (rc nc lc pc : Nat) (st : Int), e = .returned (.tuple #[gmA (.slice ra 0 rc) (.slice na 0 nc) (.slice la 0 lc) (.slice pa 0 pc) st, .int .i64 3, .int .i64 5]) ∧ Below u.heap.size u w'
  bnd : ∀ s g, prs s = some g → BndG g
/-- what is asked of a grammar that was read -/
structure SndOK (prs : Txt → Option Gm) : Prop where
  sound : ∀ s g, prs s = some g → SoundG g
  right : ∀ s g, prs s = some g → ∀ r ∈ g.rules, ∀ (v : Value) (u : World), Cels u v r.re → Calls Tryz.prog 13 #[v] u fun e w' => e = .returned (.bool true) ∧ Below u.heap.size u w'
theorem nums12 (w : World) : Nums (w.alloc (.cells #[.int .i64 1, .int .i64 2] 3)) (.slice (some ⟨w.heap.size, 0, none⟩) 2 2) [1, 2] :=
  ⟨_, 2, rfl, Nat.le_refl _, fun h => (by cases h), fun j hj => ⟨_, 0, rfl, by rw [World.size_alloc]; omega, by
    have hj : j = 0 ∨ j = 1 := by simp at hj; omega
    rcases hj with rfl | rfl
    · exact blk_cell (heap_new w _) rfl
    · exact blk_cell (heap_new w _) rfl⟩⟩
theorem cells5m {w : World} {b t : Nat} {x0 x1 x2 x3 x4 : Value} (h : w.heap[b]? = some (.cells #[x0, x1, x2, x3, x4] t (0, 0))) : w.cell? ⟨b, 0, none⟩ = some x0 ∧ w.cell? ⟨b, 1, none⟩ = some x1 ∧ w.cell? ⟨b, 2, none⟩ = some x2 ∧ w.cell? ⟨b, 3, none⟩ = some x3 ∧ w.cell? ⟨b, 4, none⟩ = some x4 :=
  ⟨blk_cell h rfl, blk_cell h rfl, blk_cell h rfl, blk_cell h rfl, blk_cell h rfl⟩
set_option maxRecDepth 20000 in
set_option maxHeartbeats 4000000 in
theorem wakes12 {prs : Txt → Option Gm} (L : LowN) (H : PrsOK prs) (w : World) : Calls Tryz.prog 5 #[] w fun e w' => e = .returned (.bool true) ∧ Below w.heap.size w w' := by
  obtain ⟨g, hg, hst, hpl, hpr⟩ := H.ex
  have G1 := hid (H.yes ex1 g w (by decide) hg)
  have G2 := hid (fun u => H.bad u)
  have GU := hid (fun v v' u h1 h2 => L.nums v v' [1, 2] u h1 h2 (by decide))
  rw [hst, show strT ex1 = ⟨#[116, 111, 107, 101, 110, 32, 97, 32, 47, 120, 47, 59, 32, 115, 58, 32, 97, 32, 115, 32, 124, 32, 59]⟩ from rfl] at G1
  rw [show strT ex2 = ⟨#[115, 58, 32, 98, 59]⟩ from rfl] at G2
  have hpr := hid hpr
  have hpl := hid hpl
  clear H L hg hst
  go_enter Tryz.func5, Tryz.ntmps5
  go_wp2_with (first
    | (go_at_call 12; refine G1.out.mono ?_; clear G1; rintro e w1 ⟨rv, nv, lv, pv, rfl, hV, hc1⟩; obtain ⟨ra, rc, hre⟩ := hV.rules.shape; obtain ⟨na, nc, hne⟩ := hV.nonts.shape; obtain ⟨la, lc, hle⟩ := hV.levels.shape; obtain ⟨pa, pc, hpe⟩ := hV.prods.shape; subst hre hne hle hpe; rw [hpl.out] at hV ⊢; have hc1 := hid hc1; have hV1 := hid (hV.keep (al' w1 (.cells #[.slice ra g.rules.length rc, .slice na g.nonts.length nc, .slice la g.levels.length lc, .slice pa 2 pc, .int .i64 2] 27))); have hk1 := hid (heap_new w1 (.cells #[.slice ra g.rules.length rc, .slice na g.nonts.length nc, .slice la g.levels.length lc, .slice pa 2 pc, .int .i64 2] 27)); have hw1 := hid (bl_step hc1.out (al' w1 (.cells #[.slice ra g.rules.length rc, .slice na g.nonts.length nc, .slice la g.levels.length lc, .slice pa 2 pc, .int .i64 2] 27))); clear hV)
    | (go_at_call 12; refine (G2.out _).mono ?_; clear G2; rintro e w2 ⟨ra', na', la', pa', rc', nc', lc', pc', st', rfl, hc2⟩; obtain ⟨W3, hW3⟩ : ∃ x, w2.alloc (.cells #[.slice ra' 0 rc', .slice na' 0 nc', .slice la' 0 lc', .slice pa' 0 pc', .int .i64 st'] 27) = x := ⟨_, rfl⟩; have hB3 : Below w2.heap.size w2 W3 := (by rw [← hW3]; exact al' w2 _); have hV2 := hid ((hV1.out.keep hc2).keep hB3); obtain ⟨y0, y1, y2, y3, y4⟩ := cells5m (hs_keep (hs_keep hk1.out hc2) hB3); have hw2 := hid (bl_step (bl_step hw1.out hc2) hB3); obtain ⟨b, o, hpe, -, v, x0, x1, x2, hN⟩ := hV2.out.prods.at (j := 0) (by rw [hpl.out]; decide); subst hpe; rw [hpr.out (by rw [hpl.out]; decide)] at hN; rw [Nat.zero_mul, Nat.add_zero] at x0 x1 x2; have hN3 := hid (hN.keep (al' W3 (.cells #[.int .i64 1, .int .i64 2] 3))); have hM3 := hid (nums12 W3); have hw3 := hid (bl_step hw2.out (al' W3 (.cells #[.int .i64 1, .int .i64 2] 3))); clear hN hV2 hB3 hc2 hk1 hV1)
    | (go_at_call 15; refine (GU.out _ _ _ hN3.out hM3.out).mono ?_; clear GU; rintro e w4 ⟨rfl, hc4⟩; have hc4 := hid hc4; have y9 := hid (keep_cell (bl_step (al' W3 (.cells #[.int .i64 1, .int .i64 2] 3)) hc4.out) y4); have y4 := y9.out))
  go_ret
  exact ⟨by simp, bl_step hw3.out hc4.out⟩

end Go.Proofs.YtcledgljbmepaaaGreat
namespace Go.Proofs.YtcledgljbmepaaaGreat
open Go.RowKit

theorem lowN : LowN where
  nums v v' l u h h' hl := (refSame v v' l l u (by omega) (by omega) h h').mono (by
    rintro e w' ⟨rfl, hw⟩
    exact ⟨by simp, by first | exact hw | (subst hw; exact Below.refl _ _)⟩)
set_option maxRecDepth 20000 in
theorem rightYes {l : List Cel} (hr : rightB l = true) (v : Value) (u : World) (h : Cels u v l) : Calls Tryz.prog 13 #[v] u fun e w' => e = .returned (.bool true) ∧ Below u.heap.size u w' :=
  (rightC v l u h).mono (by
    rintro e w' ⟨rfl, hw⟩
    subst hw
    exact ⟨by rw [hr], Below.refl _ _⟩)

end Go.Proofs.YtcledgljbmepaaaGreat
namespace Go.Proofs.YtcledgljbmepaaaGreat
open Go.RowKit Go.Maps Go.Sort

abbrev sidesV : Value := .agg #[.string ⟨#[]⟩, .string ⟨#[108, 101, 102, 116]⟩, .string ⟨#[114, 105, 103, 104, 116]⟩, .string ⟨#[110, 111, 110, 101]⟩]
set_option maxRecDepth 20000 in
theorem sidesC (w : World) : Calls Tryz.prog 48 #[] w fun e w' => e = .returned sidesV ∧ Below w.heap.size w w' := by
  have hb := hid (al' w (.cells #[.string ⟨#[]⟩, .string ⟨#[108, 101, 102, 116]⟩, .string ⟨#[114, 105, 103, 104, 116]⟩, .string ⟨#[110, 111, 110, 101]⟩] 102))
  go_enter Tryz.func48, Tryz.ntmps48
  go_wp2
  refine bodyPost_ret (v := sidesV) (by simp [results, Tryz.results48, go_sem]) rfl ⟨rfl, ?_⟩
  exact hb.out
set_option maxRecDepth 20000 in
theorem ixS (w : World) : (Instr.index 102 sidesV (.int .i64 0)).run Tryz.prog w = .ok (.string ⟨#[]⟩) w ∧ (Instr.index 102 sidesV (.int .i64 1)).run Tryz.prog w = .ok (.string ⟨#[108, 101, 102, 116]⟩) w ∧ (Instr.index 102 sidesV (.int .i64 2)).run Tryz.prog w = .ok (.string ⟨#[114, 105, 103, 104, 116]⟩) w ∧ (Instr.index 102 sidesV (.int .i64 3)).run Tryz.prog w = .ok (.string ⟨#[110, 111, 110, 101]⟩) w := by
  refine ⟨?_, ?_, ?_, ?_⟩
  all_goals
    simp [Instr.index, run_underlying Tryz.underlying102, asIntOf, go_sem, part, isAgg, run_underlying Tryz.underlying9]
/-- a text that is one, or is none -/
theorem strT_is {t u : Txt} (h : t = u) : ((strT t).toList == u) = true := by rw [h, strT_toL, beq_self_eq_true]
theorem strT_isnt {t u : Txt} (h : ¬ t = u) : ((strT t).toList == u) = false := by rw [strT_toL, beq_eq_false_iff_ne]; exact h
theorem strT_is' {t u : Txt} (h : t = u) : (u == (strT t).toList) = true := by rw [h, strT_toL, beq_self_eq_true]
theorem strT_isnt' {t u : Txt} (h : ¬ t = u) : (u == (strT t).toList) = false := by rw [strT_toL, beq_eq_false_iff_ne]; exact fun e => h e.symm
theorem strT_emp {t : Txt} (h : t = []) : (strT t).toList.isEmpty = true := by rw [h, strT_toL]; rfl
theorem strT_nemp {t : Txt} (h : ¬ t = []) : (strT t).toList.isEmpty = false := by rw [strT_toL]; cases t with | nil => exact absurd rfl h | cons _ _ => rfl
set_option maxRecDepth 20000 in
set_option maxHeartbeats 4000000 in
theorem sideC (t : Txt) (w : World) : Calls Tryz.prog 31 #[.string (strT t)] w fun e w' => e = .returned (.int .i64 (sdN t : Int)) ∧ Below w.heap.size w w' := by
  have GC := hid (sidesC w)
  have hI := hid (fun x => ixS x)
  have h0 : Hid (t = [] → sdN t = 0) := hid (fun h => by rw [h]; rfl)
  have h1 : Hid (t = kLeft → sdN t = 1) := hid (fun h => by rw [h]; rfl)
  have h2 : Hid (t = kRight → sdN t = 2) := hid (fun h => by rw [h]; rfl)
  have h3 : Hid (t = kNone → sdN t = 3) := hid (fun h => by rw [h]; rfl)
  have h4 : Hid (¬ t = kLeft → ¬ t = kRight → ¬ t = kNone → sdN t = 0) := hid (fun a b c => by unfold sdN; rw [if_neg a, if_neg b, if_neg c])
  generalize sdN t = n at *
  go_enter Tryz.func31, Tryz.ntmps31
  go_wp2_with (go_at_call 48; refine GC.out.mono ?_; clear GC; rintro e w2 ⟨rfl, hc2⟩; have hc2 := hid hc2)
  go_loopw [6] (fun x wr => ∃ k : Nat, k ≤ 4 ∧ x = .int .i64 (k : Int) ∧ Hid ((1 < k → ¬ t = kLeft) ∧ (2 < k → ¬ t = kRight) ∧ (3 < k → ¬ t = kNone)) ∧ Hid (Below w.heap.size w wr)) (fun x _ => 4 - (intOf x).toNat)
  case atStart => exact ⟨0, by omega, rfl, hid ⟨fun h => absurd h (by omega), fun h => absurd h (by omega), fun h => absurd h (by omega)⟩, hc2⟩
  case round =>
    obtain ⟨k, hk, rfl, hn, hw⟩ := hrel
    by_cases hlt : k < 4
    · obtain ⟨i0, i1, i2, i3⟩ := hI.out wr
      have hk4 : k = 0 ∨ k = 1 ∨ k = 2 ∨ k = 3 := by omega
      rcases hk4 with rfl | rfl | rfl | rfl
      · clear i1 i2 i3
        by_cases ht : t = []
        · have hb := strT_emp ht
          have := h0.out ht
          subst this
          generalize strT t = S at *
          go_wp2
          go_ret
          exact ⟨rfl, hw.out⟩
        · have hb := strT_nemp ht
          have hs2 : Hid (Below w.heap.size w wr) := hw
          generalize strT t = S at *
          go_wp2
          go_roundw
          case rel => exact ⟨1, by omega, by go_num, hid ⟨fun h => absurd h (by omega), fun h => absurd h (by omega), fun h => absurd h (by omega)⟩, hs2⟩
          case measure => simp [intOf]
      · clear i0 i2 i3
        by_cases ht : t = kLeft
        · have hb : (([108, 101, 102, 116] : Txt) == (strT t).toList) = true := strT_is' ht
          have := h1.out ht
          subst this
          generalize strT t = S at *
          go_wp2
          go_ret
          exact ⟨rfl, hw.out⟩
        · have hb : (([108, 101, 102, 116] : Txt) == (strT t).toList) = false := strT_isnt' ht
          have hs2 : Hid (Below w.heap.size w wr) := hw
          generalize strT t = S at *
          go_wp2
          go_roundw
          case rel => exact ⟨2, by omega, by go_num, hid ⟨fun _ => ht, fun h => absurd h (by omega), fun h => absurd h (by omega)⟩, hs2⟩
          case measure => simp [intOf]
      · clear i0 i1 i3
        by_cases ht : t = kRight
        · have hb : (([114, 105, 103, 104, 116] : Txt) == (strT t).toList) = true := strT_is' ht
          have := h2.out ht
          subst this
          generalize strT t = S at *
          go_wp2
          go_ret
          exact ⟨rfl, hw.out⟩
        · have hb : (([114, 105, 103, 104, 116] : Txt) == (strT t).toList) = false := strT_isnt' ht
          have hs2 : Hid (Below w.heap.size w wr) := hw
          generalize strT t = S at *
          go_wp2
          go_roundw
          case rel => exact ⟨3, by omega, by go_num, hid ⟨fun _ => hn.out.1 (by omega), fun _ => ht, fun h => absurd h (by omega)⟩, hs2⟩
          case measure => simp [intOf]
      · clear i0 i1 i2
        by_cases ht : t = kNone
        · have hb : (([110, 111, 110, 101] : Txt) == (strT t).toList) = true := strT_is' ht
          have := h3.out ht
          subst this
          generalize strT t = S at *
          go_wp2
          go_ret
          exact ⟨rfl, hw.out⟩
        · have hb : (([110, 111, 110, 101] : Txt) == (strT t).toList) = false := strT_isnt' ht
          have hs2 : Hid (Below w.heap.size w wr) := hw
          generalize strT t = S at *
          go_wp2
          go_roundw
          case rel => exact ⟨4, by omega, by go_num, hid ⟨fun _ => hn.out.1 (by omega), fun _ => hn.out.2.1 (by omega), fun _ => ht⟩, hs2⟩
          case measure => simp [intOf]
    · have : k = 4 := by omega
      subst this
      have := h4.out (hn.out.1 (by omega)) (hn.out.2.1 (by omega)) (hn.out.2.2 (by omega))
      subst this
      go_wp2
      go_ret
      exact ⟨rfl, hw.out⟩

set_option maxRecDepth 20000 in
set_option maxHeartbeats 4000000 in
theorem keywordC (t : Txt) (w : World) : Calls Tryz.prog 62 #[.string (strT t)] w fun e w' => e = .returned (.bool (kwB t)) ∧ Below w.heap.size w w' := by
  have GS := hid (fun u => sideC t u)
  obtain ⟨R, hR⟩ : ∃ R, Hid (kwB t = R) := ⟨_, hid rfl⟩
  rw [hR.out]
  unfold kwB at hR
  generalize sdN t = n at *
  by_cases h1 : t = kTok
  · have hb1 : ((strT t).toList == ([116, 111, 107, 101, 110] : Txt)) = true := strT_is h1
    rw [decide_eq_true h1, Bool.true_or, Bool.true_or, Bool.true_or] at hR
    obtain rfl := hR.out
    generalize strT t = S at *
    clear h1 hR
    go_enter Tryz.func62, Tryz.ntmps62
    go_wp2_with fail
    go_ret
    exact ⟨rfl, Below.refl _ _⟩
  have hb1 : ((strT t).toList == ([116, 111, 107, 101, 110] : Txt)) = false := strT_isnt h1
  rw [decide_eq_false h1, Bool.false_or] at hR
  by_cases h2 : t = kSkip
  · have hb2 : ((strT t).toList == ([115, 107, 105, 112] : Txt)) = true := strT_is h2
    rw [decide_eq_true h2, Bool.true_or, Bool.true_or] at hR
    obtain rfl := hR.out
    generalize strT t = S at *
    clear h1 h2 hR
    go_enter Tryz.func62, Tryz.ntmps62
    go_wp2_with fail
    go_ret
    exact ⟨rfl, Below.refl _ _⟩
  have hb2 : ((strT t).toList == ([115, 107, 105, 112] : Txt)) = false := strT_isnt h2
  rw [decide_eq_false h2, Bool.false_or] at hR
  by_cases h3 : t = kStart
  · have hb3 : ((strT t).toList == ([115, 116, 97, 114, 116] : Txt)) = true := strT_is h3
    rw [decide_eq_true h3, Bool.true_or] at hR
    obtain rfl := hR.out
    generalize strT t = S at *
    clear h1 h2 h3 hR
    go_enter Tryz.func62, Tryz.ntmps62
    go_wp2_with fail
    go_ret
    exact ⟨rfl, Below.refl _ _⟩
  have hb3 : ((strT t).toList == ([115, 116, 97, 114, 116] : Txt)) = false := strT_isnt h3
  rw [decide_eq_false h3, Bool.false_or] at hR
  clear h1 h2 h3
  generalize strT t = S at *
  rcases Nat.eq_zero_or_pos n with h4 | h4
  · subst h4
    obtain rfl : false = R := hR.out
    clear hR
    go_enter Tryz.func62, Tryz.ntmps62
    go_wp2_with (go_at_call 31; refine (GS.out _).mono ?_; clear GS; rintro e w2 ⟨rfl, hc2⟩; have hc2 := hid hc2)
    go_ret
    exact ⟨rfl, hc2.out⟩
  · rw [decide_eq_true h4] at hR
    obtain rfl := hR.out
    clear hR
    have h4z : (0 : Int) < (n : Int) := by omega
    go_enter Tryz.func62, Tryz.ntmps62
    go_wp2_with (go_at_call 31; refine (GS.out _).mono ?_; clear GS; rintro e w2 ⟨rfl, hc2⟩; have hc2 := hid hc2)
    go_ret
    exact ⟨by simp, hc2.out⟩

end Go.Proofs.YtcledgljbmepaaaGreat
namespace Go.Proofs.YtcledgljbmepaaaGreat
open Go.RowKit Go.Maps Go.Sort

/-- a slice of n things of sz cells each that holds the cells xs, wherever it lies -/
def Rw (sz : Nat) (w : World) (v : Value) (n : Nat) (xs : List Value) : Prop := ∃ a cap, v = .slice a n cap ∧ (a = none → cap = 0) ∧ xs.length = n * sz ∧ (∀ u ∈ xs, u.oneCell' = true) ∧ ∀ j u, xs[j]? = some u → ∃ b o, a = some ⟨b, o, none⟩ ∧ b < w.heap.size ∧ w.cell? ⟨b, o + j, none⟩ = some u
theorem Rw.keep {sz : Nat} {w u : World} {v : Value} {n : Nat} {xs : List Value} (h : Rw sz w v n xs) (hu : Below w.heap.size w u) : Rw sz u v n xs := by
  obtain ⟨a, cap, e, hn, hl, h1, hat⟩ := h
  refine ⟨a, cap, e, hn, hl, h1, fun j x hj => ?_⟩
  obtain ⟨b, o, e1, h2, h3⟩ := hat j x hj
  exact ⟨b, o, e1, Nat.lt_of_lt_of_le h2 hu.size, keep_cell hu h3⟩
set_option maxRecDepth 20000 in
/-- append([]T{}, x...): its run -/
theorem run_appG {tS tE ty : TypeId} {i0 : TypeInfo} {z : Value} {sz bytes : Nat} (ht : Tryz.prog.underlying tS = some (.slice tE)) (hi : Tryz.prog.info? tE = some i0) (hz : i0.zero = some z) (hs : i0.size = sz) (hb : i0.bytes = bytes) (hzs : z.cells.size = sz) (hsz : 0 < sz)
    {u : World} {vx : Value} {n : Nat} {xs : List Value} (hR : Rw sz u vx n xs) (hn : n ≤ 1000000) (hnb : n * bytes ≤ 140737488355328) :
    ∃ v' w', (Builtin.append_ #[tS, tS] ty #[.slice (some ⟨u.heap.size, 0, none⟩) 0 0, vx]).run Tryz.prog (u.alloc (.cells #[] tE)) = .ok v' w' ∧ w'.ownsRow u.heap.size tE sz v' n xs ∧ Below u.heap.size u w' := by
  have hO : (u.alloc (.cells #[] tE)).ownsRow u.heap.size tE sz (.slice (some ⟨u.heap.size, 0, none⟩) 0 0) 0 [] := World.ownsRow_lit u #[] 0 (Nat.le_refl _) (by unfold maxLen; omega) (by simp)
  obtain ⟨a, cap, rfl, hn0, hl, h1, hat⟩ := hR
  cases a with
  | none =>
    have hx0 : xs = [] := by
      cases xs with
      | nil => rfl
      | cons x l => obtain ⟨_, _, e, _⟩ := hat 0 x rfl; cases e
    subst hx0
    have hnz : n = 0 := by
      rcases Nat.eq_zero_or_pos n with h | h
      · exact h
      · have := Nat.mul_le_mul h hsz; simp at hl; omega
    subst hnz
    have := hn0 rfl
    subst this
    exact ⟨_, _, run_append_owned_none (P := Tryz.prog) (w := u.alloc (.cells #[] tE)) _ tS ty tE i0 sz ht hi _ _ _ hO, hO, al' u _⟩
  | some ad =>
    obtain ⟨v', w', hr, hO', hg, _⟩ := run_append_own (P := Tryz.prog) (u.alloc (.cells #[] tE)) u.heap.size tS ty tE i0 z sz bytes ht hi hz hs hb hzs hsz _ 0 [] hO ad n cap xs hl (fun j x hj => by
      obtain ⟨b, o, e, h2, h3⟩ := hat j x hj
      injection e with e
      subst e
      have ea : (⟨b, o, none⟩ : Addr).add j = ⟨b, o + j, none⟩ := by simp [Addr.add]
      rw [ea]
      exact keep_cell (al' u _) h3) h1 (by unfold maxLen; omega) (by rw [Nat.zero_add]; exact hnb) (by rw [World.size_alloc]; omega)
    rw [Nat.zero_add, List.nil_append] at hO'
    have hsz1 : u.heap.size ≤ (u.alloc (.cells #[] tE)).heap.size := (al' u _).size
    exact ⟨v', w', hr, hO', (al' u _).trans ((Kept.of_grown hg).below (fun k hk => (hO.lt k hk).1) hsz1)⟩
/-- rows of three -/
def rw3 (n : Nat) (p f q : Nat → Value) : List Value := (List.range n).flatMap fun j => [p j, f j, q j]
theorem rw3_succ (n : Nat) (p f q : Nat → Value) : rw3 (n + 1) p f q = rw3 n p f q ++ [p n, f n, q n] := by
  unfold rw3
  rw [List.range_succ, List.flatMap_append, List.flatMap_singleton]
theorem rw3_len (p f q : Nat → Value) : ∀ n, (rw3 n p f q).length = n * 3
  | 0 => rfl
  | n + 1 => by rw [rw3_succ, List.length_append, rw3_len p f q n]; show _ + 3 = _; omega
theorem rw3_at (p f q : Nat → Value) : ∀ n j, j < n → (rw3 n p f q)[j * 3]? = some (p j) ∧ (rw3 n p f q)[j * 3 + 1]? = some (f j) ∧ (rw3 n p f q)[j * 3 + 2]? = some (q j)
  | 0, j, h => absurd h (Nat.not_lt_zero _)
  | n + 1, j, h => by
    have hl := rw3_len p f q n
    rw [rw3_succ]
    rcases Nat.lt_or_ge j n with h1 | h1
    · obtain ⟨a, b, c⟩ := rw3_at p f q n j h1
      rw [List.getElem?_append_left (by omega), List.getElem?_append_left (by omega), List.getElem?_append_left (by omega)]
      exact ⟨a, b, c⟩
    · obtain rfl : j = n := by omega
      rw [List.getElem?_append_right (by omega), List.getElem?_append_right (by omega), List.getElem?_append_right (by omega), hl, Nat.sub_self, Nat.add_sub_cancel_left, Nat.add_sub_cancel_left]
      exact ⟨rfl, rfl, rfl⟩
def upd (f : Nat → Value) (k : Nat) (x : Value) : Nat → Value := fun j => if j = k then x else f j
theorem rw3_far (p f q : Nat → Value) (k : Nat) (x : Value) : ∀ n, n ≤ k → rw3 n p (upd f k x) q = rw3 n p f q
  | 0, _ => rfl
  | n + 1, h => by
    rw [rw3_succ, rw3_succ, rw3_far p f q k x n (by omega)]
    have : upd f k x n = f n := if_neg (by omega)
    rw [this]
theorem rw3_set (p f q : Nat → Value) (k : Nat) (x : Value) : ∀ n, k < n → (rw3 n p f q).set (k * 3 + 1) x = rw3 n p (upd f k x) q
  | 0, h => absurd h (Nat.not_lt_zero _)
  | n + 1, h => by
    have hl := rw3_len p f q n
    rw [rw3_succ, rw3_succ]
    rcases Nat.lt_or_ge k n with h1 | h1
    · rw [List.set_append_left _ _ (by omega), rw3_set p f q k x n h1]
      have : upd f k x n = f n := if_neg (by omega)
      rw [this]
    · obtain rfl : k = n := by omega
      rw [List.set_append_right _ _ (by omega), hl, Nat.add_sub_cancel_left, rw3_far p f q k x k (Nat.le_refl _)]
      have : upd f k x k = x := if_pos rfl
      rw [this]
      rfl
/-- a cell of an own row changed -/
theorem own_put {w : World} {B n size g cap i : Nat} {e : TypeId} {xs : List Value} (h : w.ownsRow B e size (.slice (some ⟨g, 0, none⟩) n cap) n xs) (x : Value) : (w.setCell ⟨g, i, none⟩ x).ownsRow B e size (.slice (some ⟨g, 0, none⟩) n cap) n (xs.set i x) := by
  refine ⟨by rw [List.length_set]; exact h.1, ?_⟩
  rcases h.2 with ⟨h1, _⟩ | ⟨g', cap', cur, h1, h2, h3, h4, h5, h6, h7⟩
  · cases h1
  · have h8 := h1
    injection h1 with e1 _ e3
    injection e1 with e1
    injection e1 with e1 _ _
    subst e1 e3
    refine .inr ⟨g, cap, cur.setIfInBounds i x, rfl, h2, heap_setCell h3, h4, h5, by rw [Array.size_setIfInBounds]; exact h6, ?_⟩
    rw [Array.toList_setIfInBounds, List.take_set, h7]
theorem own_block {w : World} {B n size g cap : Nat} {e : TypeId} {xs : List Value} (h : w.ownsRow B e size (.slice (some ⟨g, 0, none⟩) n cap) n xs) : ∃ cur, w.heap[g]? = some (.cells cur e (0, 0)) ∧ B ≤ g := by
  rcases h.2 with ⟨h1, _⟩ | ⟨g', cap', cur, h1, h2, h3, _⟩
  · cases h1
  · injection h1 with e1 _ e3
    injection e1 with e1
    injection e1 with e1 _ _
    subst e1
    exact ⟨cur, h3, h2⟩
/-- no cell of a slice lies in the blocks F -/
def OffP (F : Nat → Prop) (v : Value) : Prop := ∀ a n c, v = .slice (some a) n c → 0 < n → ¬ F a.block
theorem Cels.keptP {F : Nat → Prop} {w w' : World} {v : Value} {l : List Cel} (h : Cels w v l) (hk : Kept F w w') (ho : OffP F v) : Cels w' v l := by
  obtain ⟨a, cap, rfl, hc, hn, hf, hat⟩ := h
  refine ⟨a, cap, rfl, hc, hn, hf, fun j hj => ?_⟩
  obtain ⟨b, o, rfl, hlt, h5⟩ := hat j hj
  have hn : ¬ F b := ho _ _ _ rfl (by omega)
  obtain ⟨x0, x1, x2, x3, x4⟩ := h5
  exact ⟨b, o, rfl, Nat.lt_of_lt_of_le hlt hk.size, hk.cell x0 hlt hn, hk.cell x1 hlt hn, hk.cell x2 hlt hn, hk.cell x3 hlt hn, hk.cell x4 hlt hn⟩
theorem Nums.keptP {F : Nat → Prop} {w w' : World} {v : Value} {l : List Int} (h : Nums w v l) (hk : Kept F w w') (ho : OffP F v) : Nums w' v l := by
  obtain ⟨a, cap, rfl, hc, hn, hat⟩ := h
  refine ⟨a, cap, rfl, hc, hn, fun j hj => ?_⟩
  obtain ⟨b, o, rfl, hlt, h5⟩ := hat j hj
  have hn : ¬ F b := ho _ _ _ rfl (by omega)
  exact ⟨b, o, rfl, Nat.lt_of_lt_of_le hlt hk.size, hk.cell h5 hlt hn⟩
theorem Cels.off {F : Nat → Prop} {w : World} {v : Value} {l : List Cel} (h : Cels w v l) (hF : ∀ b, b < w.heap.size → ¬ F b) : OffP F v := fun a n c e hn => by
  obtain ⟨a', cap, e', _, _, _, hat⟩ := h
  rw [e'] at e
  injection e with e1 e2 e3
  subst e2
  obtain ⟨b, o, e4, hlt, _⟩ := hat 0 hn
  rw [e4] at e1
  injection e1 with e1
  subst e1
  exact hF b hlt
theorem Nums.off {F : Nat → Prop} {w : World} {v : Value} {l : List Int} (h : Nums w v l) (hF : ∀ b, b < w.heap.size → ¬ F b) : OffP F v := fun a n c e hn => by
  obtain ⟨a', cap, e', _, _, hat⟩ := h
  rw [e'] at e
  injection e with e1 e2 e3
  subst e2
  obtain ⟨b, o, e4, hlt, _⟩ := hat 0 hn
  rw [e4] at e1
  injection e1 with e1
  subst e1
  exact hF b hlt
theorem own_off {F : Nat → Prop} {w : World} {B n size : Nat} {e : TypeId} {v : Value} {xs : List Value} (h : w.ownsRow B e size v n xs) (hF : ∀ b, B ≤ b → ¬ F b) : OffP F v := fun a m c e hn => by
  rcases h.2 with ⟨rfl, _⟩ | ⟨g', cap', cur, rfl, h2, h3, _⟩
  · cases e
  · injection e with e1 _ _
    injection e1 with e1
    subst e1
    exact hF _ h2

end Go.Proofs.YtcledgljbmepaaaGreat
