/- Where operands end. The reference: Empty. The reference: Null. The reference: Check. -/
import Derived.Test.YthgbjhnknepefaaGreatJ4
import Derived.Test.YthgbjhnknepefaaGreatJ27
namespace Go.Proofs.YthgbjhnknepefaaGreat
open Go.RowKit

/-- the last cell of a rule that lies in a list -/
theorem root_at {l pre suf : List Cel} {t : Rx} (h : l = pre ++ (post t ++ suf)) : ∃ J : Nat, J + 1 = pre.length + (post t).length ∧ l[J]? = some (rootC t) := by
  have e : lain [t] = post t := by simp [lain]
  have hl := lain_last (l := l) (pre := pre) (suf := suf) (t := t) (st := []) (by rw [e]; exact h)
  have hn := lain_len t []
  rw [e] at hn
  exact ⟨_, by omega, hl.1⟩
theorem len_le {l pre suf : List Cel} {t : Rx} (h : l = pre ++ (post t ++ suf)) : pre.length + (post t).length ≤ l.length := by
  have := congrArg List.length h
  simp at this
  omega

end Go.Proofs.YthgbjhnknepefaaGreat
namespace Go.Proofs.YthgbjhnknepefaaGreat
open Go.RowKit

set_option maxRecDepth 20000 in
set_option maxHeartbeats 4000000 in
theorem emptyC : ∀ (t : Rx) (v : Value) (l pre suf : List Cel) (E : Int) (w : World), Cels w v l → l.length ≤ 60 → l = pre ++ (post t ++ suf) → E + 1 = ((pre.length + (post t).length : Nat) : Int) →
    Calls Tryz.prog 59 #[v, .int .i64 E] w fun e w' => e = .returned (.bool t.null) ∧ w' = w
  | .set S, v, l, pre, suf, E, w, hA, hl, h, hE => by
    obtain ⟨J, hJ, hc⟩ := root_at h
    have hle := len_le h
    obtain ⟨av, cv, rfl, _, _, _, hAt⟩ := hA
    obtain ⟨hjl, b', o', rfl, d0, -, -, -, -⟩ := cel_at hAt hc
    obtain rfl : E = (J : Int) := by omega
    have hjz : (J : Int) < (l.length : Int) := by omega
    simp only [rootC] at d0
    clear hAt hc h hE hJ
    go_enter Tryz.func59, Tryz.ntmps59
    go_wp2
    go_ret
    exact ⟨rfl, rfl⟩
  | .eps, v, l, pre, suf, E, w, hA, hl, h, hE => by
    obtain ⟨J, hJ, hc⟩ := root_at h
    have hle := len_le h
    obtain ⟨av, cv, rfl, _, _, _, hAt⟩ := hA
    obtain ⟨hjl, b', o', rfl, d0, -, -, -, -⟩ := cel_at hAt hc
    obtain rfl : E = (J : Int) := by omega
    have hjz : (J : Int) < (l.length : Int) := by omega
    simp only [rootC] at d0
    clear hAt hc h hE hJ
    go_enter Tryz.func59, Tryz.ntmps59
    go_wp2
    go_ret
    exact ⟨rfl, rfl⟩
  | .star a, v, l, pre, suf, E, w, hA, hl, h, hE => by
    obtain ⟨J, hJ, hc⟩ := root_at h
    have hle := len_le h
    obtain ⟨av, cv, rfl, _, _, _, hAt⟩ := hA
    obtain ⟨hjl, b', o', rfl, d0, -, -, -, -⟩ := cel_at hAt hc
    obtain rfl : E = (J : Int) := by omega
    have hjz : (J : Int) < (l.length : Int) := by omega
    simp only [rootC] at d0
    clear hAt hc h hE hJ
    go_enter Tryz.func59, Tryz.ntmps59
    go_wp2
    go_ret
    exact ⟨rfl, rfl⟩
  | .opt a, v, l, pre, suf, E, w, hA, hl, h, hE => by
    obtain ⟨J, hJ, hc⟩ := root_at h
    have hle := len_le h
    obtain ⟨av, cv, rfl, _, _, _, hAt⟩ := hA
    obtain ⟨hjl, b', o', rfl, d0, -, -, -, -⟩ := cel_at hAt hc
    obtain rfl : E = (J : Int) := by omega
    have hjz : (J : Int) < (l.length : Int) := by omega
    simp only [rootC] at d0
    clear hAt hc h hE hJ
    go_enter Tryz.func59, Tryz.ntmps59
    go_wp2
    go_ret
    exact ⟨rfl, rfl⟩
  | .plus a, v, l, pre, suf, E, w, hA, hl, h, hE => by
    obtain ⟨J, hJ, hc⟩ := root_at h
    have hle := len_le h
    have hpa := post_pos a
    have hpl : (post (.plus a)).length = (post a).length + 1 := by simp [post]
    have G := hid (emptyC a v l pre (⟨6, noneB⟩ :: suf) (E - 1) w hA hl (by rw [h]; simp [post]) (by rw [hpl] at hE; omega))
    obtain ⟨av, cv, rfl, _, _, _, hAt⟩ := hA
    obtain ⟨hjl, b', o', rfl, d0, -, -, -, -⟩ := cel_at hAt hc
    obtain rfl : E = (J : Int) := by omega
    have hjz : (J : Int) < (l.length : Int) := by omega
    simp only [rootC] at d0
    rw [show (Rx.plus a).null = a.null from rfl]
    generalize a.null = na at G ⊢
    clear hAt hc h hE hJ
    go_enter Tryz.func59, Tryz.ntmps59
    go_wp2_with (go_at_call 59; refine G.out.mono ?_; rintro e u1 ⟨rfl, hu⟩; subst u1)
    go_ret
    exact ⟨rfl, rfl⟩
  | .cat a b, v, l, pre, suf, E, w, hA, hl, h, hE => by
    obtain ⟨J, hJ, hc⟩ := root_at h
    have hle := len_le h
    have hpa := post_pos a
    have hpb := post_pos b
    have hpl : (post (.cat a b)).length = (post a).length + ((post b).length + 1) := by simp [post]
    have hsp : l = (pre ++ post a) ++ (post b ++ (⟨3, noneB⟩ :: suf)) := by rw [h]; simp [post]
    have hlp : (pre ++ post a).length = pre.length + (post a).length := by simp
    have GB := hid (emptyC b v l (pre ++ post a) (⟨3, noneB⟩ :: suf) (E - 1) w hA hl hsp (by rw [hlp]; rw [hpl] at hE; omega))
    have GF := hid (fromC v l (pre ++ post a) (⟨3, noneB⟩ :: suf) b (E - 1) w hA hl hsp (by rw [hlp]; rw [hpl] at hE; omega))
    have GA := hid (emptyC a v l pre (post b ++ (⟨3, noneB⟩ :: suf)) ((((pre ++ post a).length : Nat) : Int) - 1) w hA hl (by rw [h]; simp [post]) (by rw [hlp]; omega))
    have hM0 : 0 < (pre ++ post a).length := by omega
    have hM1 : (pre ++ post a).length ≤ 60 := by omega
    obtain ⟨av, cv, rfl, _, _, _, hAt⟩ := hA
    obtain ⟨hjl, b', o', rfl, d0, -, -, -, -⟩ := cel_at hAt hc
    obtain rfl : E = (J : Int) := by omega
    have hjz : (J : Int) < (l.length : Int) := by omega
    simp only [rootC] at d0
    have hJ1 : 1 ≤ J := by omega
    rw [show (Rx.cat a b).null = (b.null && a.null) from rfl]
    generalize (pre ++ post a).length = M at GF GA hM0 hM1
    generalize a.null = na at GA ⊢
    clear hAt hc h hE hJ hsp hlp hpl
    cases hb : b.null with
    | true =>
      rw [hb] at GB
      go_enter Tryz.func59, Tryz.ntmps59
      go_wp2_with (first
        | (go_at_call 77; refine GF.out.mono ?_; rintro e u2 ⟨rfl, hu2⟩; subst u2; have hfl := hid True.intro)
        | (go_at_call 59; have hfl2 := hfl; refine GA.out.mono ?_; rintro e u3 ⟨rfl, hu3⟩; subst u3)
        | (go_at_call 59; refine GB.out.mono ?_; rintro e u1 ⟨rfl, hu⟩; subst u1))
      go_ret
      exact ⟨rfl, rfl⟩
    | false =>
      rw [hb] at GB
      go_enter Tryz.func59, Tryz.ntmps59
      go_wp2_with (go_at_call 59; refine GB.out.mono ?_; rintro e u1 ⟨rfl, hu⟩; subst u1)
      go_ret
      exact ⟨rfl, rfl⟩
  | .or a b, v, l, pre, suf, E, w, hA, hl, h, hE => by
    obtain ⟨J, hJ, hc⟩ := root_at h
    have hle := len_le h
    have hpa := post_pos a
    have hpb := post_pos b
    have hpl : (post (.or a b)).length = (post a).length + ((post b).length + 1) := by simp [post]
    have hsp : l = (pre ++ post a) ++ (post b ++ (⟨4, noneB⟩ :: suf)) := by rw [h]; simp [post]
    have hlp : (pre ++ post a).length = pre.length + (post a).length := by simp
    have GB := hid (emptyC b v l (pre ++ post a) (⟨4, noneB⟩ :: suf) (E - 1) w hA hl hsp (by rw [hlp]; rw [hpl] at hE; omega))
    have GF := hid (fromC v l (pre ++ post a) (⟨4, noneB⟩ :: suf) b (E - 1) w hA hl hsp (by rw [hlp]; rw [hpl] at hE; omega))
    have GA := hid (emptyC a v l pre (post b ++ (⟨4, noneB⟩ :: suf)) ((((pre ++ post a).length : Nat) : Int) - 1) w hA hl (by rw [h]; simp [post]) (by rw [hlp]; omega))
    have hM0 : 0 < (pre ++ post a).length := by omega
    have hM1 : (pre ++ post a).length ≤ 60 := by omega
    obtain ⟨av, cv, rfl, _, _, _, hAt⟩ := hA
    obtain ⟨hjl, b', o', rfl, d0, -, -, -, -⟩ := cel_at hAt hc
    obtain rfl : E = (J : Int) := by omega
    have hjz : (J : Int) < (l.length : Int) := by omega
    simp only [rootC] at d0
    have hJ1 : 1 ≤ J := by omega
    rw [show (Rx.or a b).null = (b.null || a.null) from rfl]
    generalize (pre ++ post a).length = M at GF GA hM0 hM1
    generalize a.null = na at GA ⊢
    clear hAt hc h hE hJ hsp hlp hpl
    cases hb : b.null with
    | false =>
      rw [hb] at GB
      go_enter Tryz.func59, Tryz.ntmps59
      go_wp2_with (first
        | (go_at_call 77; refine GF.out.mono ?_; rintro e u2 ⟨rfl, hu2⟩; subst u2; have hfl := hid True.intro)
        | (go_at_call 59; have hfl2 := hfl; refine GA.out.mono ?_; rintro e u3 ⟨rfl, hu3⟩; subst u3)
        | (go_at_call 59; refine GB.out.mono ?_; rintro e u1 ⟨rfl, hu⟩; subst u1))
      go_ret
      exact ⟨rfl, rfl⟩
    | true =>
      rw [hb] at GB
      go_enter Tryz.func59, Tryz.ntmps59
      go_wp2_with (go_at_call 59; refine GB.out.mono ?_; rintro e u1 ⟨rfl, hu⟩; subst u1)
      go_ret
      exact ⟨rfl, rfl⟩


end Go.Proofs.YthgbjhnknepefaaGreat
namespace Go.Proofs.YthgbjhnknepefaaGreat
open Go.RowKit

set_option maxRecDepth 20000 in
theorem nullYes (v : Value) (t : Rx) (w : World) (hA : Cels w v (post t)) (ho : t.ok) (hl : (post t).length ≤ 60) : Calls Tryz.prog 38 #[v] w fun e w' => e = .returned (.bool t.null) ∧ w' = w := by
  have GR := hid (rightC v (post t) w hA)
  rw [right_post ho hl] at GR
  have hp := post_pos t
  have GE := hid (emptyC t v (post t) [] [] (((post t).length : Int) - 1) w hA hl (by simp) (by simp))
  obtain ⟨av, cv, rfl, _, _, _, _⟩ := hA
  generalize t.null = n at GE ⊢
  generalize (post t).length = m at GR GE hp hl ⊢
  go_enter Tryz.func38, Tryz.ntmps38
  go_wp2_with (first
    | (go_at_call 53; refine GR.out.mono ?_; rintro e u1 ⟨rfl, hu⟩; subst u1)
    | (go_at_call 59; refine GE.out.mono ?_; rintro e u2 ⟨rfl, hu2⟩; subst u2))
  go_ret
  exact ⟨rfl, rfl⟩

end Go.Proofs.YthgbjhnknepefaaGreat
namespace Go.Proofs.YthgbjhnknepefaaGreat
open Go.RowKit Go.Maps Go.Sort

/-- does a rule fit the empty text? -/
noncomputable def nulB (l : List Cel) : Bool := open Classical in if h : rightB l = true then (Classical.choose (right_tree h)).null else false
set_option maxRecDepth 20000 in
theorem nullRef (v : Value) (l : List Cel) (w : World) (hA : Cels w v l) (hr : rightB l = true) : Calls Tryz.prog 38 #[v] w fun e w' => e = .returned (.bool (nulB l)) ∧ w' = w := by
  have hc := Classical.choose_spec (right_tree hr)
  have hn : nulB l = (Classical.choose (right_tree hr)).null := by unfold nulB; rw [dif_pos hr]
  rw [hn]
  exact nullYes v _ w (by rw [hc.2.1]; exact hA) hc.1 (by rw [hc.2.1]; exact hc.2.2)
/-- what Check answers -/
inductive ChkR (g : Gm) : Int → Int → Prop
  | arg : ¬ SndG g → ChkR g 0 10
  | empty (i : Nat) (hi : i < g.rules.length) : SndG g → nulB g.rules[i].re = true → (∀ j (hj : j < g.rules.length), j < i → nulB g.rules[j].re = false) → ChkR g (i : Int) 7
  | none : SndG g → (∀ j (hj : j < g.rules.length), nulB g.rules[j].re = false) → g.nonts.length = 0 → ChkR g 0 4
  | reach (n : Int) : SndG g → (∀ j (hj : j < g.rules.length), nulB g.rules[j].re = false) → 0 < g.nonts.length → (g.terms : Int) < n → n ≤ (g.all : Int) → ¬ Rch g n → (∀ m, (g.terms : Int) < m → m < n → Rch g m) → ChkR g n 8
  | dry (n : Int) : SndG g → (∀ j (hj : j < g.rules.length), nulB g.rules[j].re = false) → 0 < g.nonts.length → (∀ m, (g.terms : Int) < m → m ≤ (g.all : Int) → Rch g m) → (g.terms : Int) < n → n ≤ (g.all : Int) → ¬ Ends g n → (∀ m, (g.terms : Int) < m → m < n → Ends g m) → ChkR g n 9
  | fine : SndG g → (∀ j (hj : j < g.rules.length), nulB g.rules[j].re = false) → 0 < g.nonts.length → (∀ m, (g.terms : Int) < m → m ≤ (g.all : Int) → Rch g m ∧ Ends g m) → ChkR g 0 0
theorem rc_has {g : Gm} (hg : SndG g) (n : Int) : (ofL (rcN g (g.nonts.length + 1))).contains n = true ↔ Rch g n := by
  rw [List.contains_iff_mem, ofL_mem, rcN_all hg]
theorem en_has {g : Gm} (hg : SndG g) (n : Int) : (ofL (enN g (g.nonts.length + 1))).contains n = true ↔ Ends g n := by
  rw [List.contains_iff_mem, ofL_mem, enN_all hg]
set_option maxRecDepth 20000 in
set_option maxHeartbeats 16000000 in
theorem refCheck (g : Gm) (rv nv lv pv : Value) (w : World) (hV : GmV w rv nv lv pv g) (hb : BndG g) (hnl : ∀ t ∈ g.allN, t.length ≤ 1000000) :
    Calls Tryz.prog 14 #[gmA rv nv lv pv g.start] w fun e w' => ∃ n er, e = .returned (.tuple #[.int .i64 n, .int .i64 er]) ∧ ChkR g n er ∧ Below w.heap.size w w' := by
  obtain ⟨ra, rc, rfl⟩ := hV.rules.shape
  obtain ⟨na, nc, rfl⟩ := hV.nonts.shape
  obtain ⟨la, lc, rfl⟩ := hV.levels.shape
  obtain ⟨pa, pc, rfl⟩ := hV.prods.shape
  have hB1 := al' w (.cells #[.slice ra g.rules.length rc, .slice na g.nonts.length nc, .slice la g.levels.length lc, .slice pa g.prods.length pc, .int .i64 g.start] 27)
  have k1 := heap_new w (.cells #[.slice ra g.rules.length rc, .slice na g.nonts.length nc, .slice la g.levels.length lc, .slice pa g.prods.length pc, .int .i64 g.start] 27)
  obtain ⟨W, hW⟩ : ∃ x, w.alloc (.cells #[.slice ra g.rules.length rc, .slice na g.nonts.length nc, .slice la g.levels.length lc, .slice pa g.prods.length pc, .int .i64 g.start] 27) = x := ⟨_, rfl⟩
  rw [hW] at hB1 k1
  have hk1 := hid (fun u (hu : Below W.heap.size W u) => cells5m (hs_keep k1 hu))
  have hB := hid hB1
  have G0 := hid (refSound g _ _ _ _ W (hV.keep hB1) hb hnl)
  obtain ⟨y0, y1, y2, y3, y4⟩ := hk1.out W (Below.refl _ _)
  by_cases hg : SndG g
  · rw [soundB_yes hg] at G0
    have b1 := hg.rules
    have b2 := hg.nonts
    have hKr : Hid (∀ u, Below w.heap.size w u → ∀ k (hk : k < g.rules.length), ∃ b o q1 q3, ra = some ⟨b, o, none⟩ ∧ u.cell? ⟨b, o + k * 3 + 1, none⟩ = some (.slice q1 g.rules[k].re.length q3) ∧ Calls Tryz.prog 38 #[.slice q1 g.rules[k].re.length q3] u fun e w' => e = .returned (.bool (nulB g.rules[k].re)) ∧ w' = u) := hid (fun u hu k hk => by
      obtain ⟨b, o, e, -, hx⟩ := (hV.keep hu).rules.at hk
      obtain ⟨v, x0, x1, x2, hN⟩ := hx
      have hN2 := hN
      obtain ⟨q1, q3, rfl, _⟩ := hN2
      exact ⟨b, o, q1, q3, e, x1, nullRef _ _ u hN (hg.right _ (List.getElem_mem hk))⟩)
    have GT := hid (fun u (hu : Below w.heap.size w u) => refTermsC _ _ _ _ g u (hV.keep hu) (by omega))
    have GR := hid (fun u (hu : Below w.heap.size w u) => refReached g _ _ _ _ u (hV.keep hu) hb hg)
    have GE := hid (fun u (hu : Below w.heap.size w u) => refEnds g _ _ _ _ u (hV.keep hu) hb hg)
    have hr1 := hid (fun n => rc_has hg n)
    have he1 := hid (fun n => en_has hg n)
    have lR : Hid ((ofL (rcN g (g.nonts.length + 1))).length ≤ 1000000) := hid (by have := ofL_len (rcN g (g.nonts.length + 1)); have := (rcN_good g (g.nonts.length + 1)).len hg; omega)
    have lE : Hid ((ofL (enN g (g.nonts.length + 1))).length ≤ 1000000) := hid (by have := ofL_len (enN g (g.nonts.length + 1)); have := (enN_good g (g.nonts.length + 1)).len hg; omega)
    have c7 := hid (fun i hi h1 h2 => ChkR.empty (g := g) i hi hg h1 h2)
    have c4 := hid (fun h1 h2 => ChkR.none (g := g) hg h1 h2)
    have c8 := hid (fun n h1 h2 h3 h4 h5 h6 => ChkR.reach (g := g) n hg h1 h2 h3 h4 h5 h6)
    have c9 := hid (fun n h1 h2 h3 h4 h5 h6 h7 => ChkR.dry (g := g) n hg h1 h2 h3 h4 h5 h6 h7)
    have c0 := hid (fun h1 h2 h3 => ChkR.fine (g := g) hg h1 h2 h3)
    have hall : Hid ((g.all : Int) = (g.terms : Int) + (g.nonts.length : Int)) := hid (by unfold Gm.all; omega)
    have btm : g.terms ≤ 16 := Nat.le_trans (trmK_le _ _) b1
    clear hV hB1 k1 hb hg hnl
    obtain ⟨rn, hrn⟩ : ∃ n, Hid (g.rules.length = n) := ⟨_, hid rfl⟩
    obtain ⟨nn, hnn⟩ : ∃ n, Hid (g.nonts.length = n) := ⟨_, hid rfl⟩
    rw [hrn.out] at b1 hk1 G0 GT GR GE hW y0 ⊢
    rw [hnn.out] at b2 hk1 G0 GT GR GE hW hr1 he1 lR lE c4 c8 c9 c0 hall y1 ⊢
    generalize ofL (rcN g (nn + 1)) = LR at *
    generalize ofL (enN g (nn + 1)) = LE at *
    generalize g.levels.length = ll at *
    generalize g.prods.length = pp at *
    generalize g.start = st at *
    generalize htm : g.terms = tm at *
    have htm := hid htm
    go_enter Tryz.func14, Tryz.ntmps14
    go_wp2_with (go_at_call 12; refine G0.out.mono ?_; clear G0; rintro e w1 ⟨rfl, hc1⟩; have hb0 := hid hc1; clear hc1)
    clear hW y0 y1 y2 y3 y4
    go_loopw [4] (fun i wr => ∃ k : Nat, k ≤ rn ∧ i = .int .i64 (k : Int) ∧ Hid (∀ j (hj : j < g.rules.length), j < k → nulB g.rules[j].re = false) ∧ Hid (Below W.heap.size W wr)) (fun i _ => rn - (intOf i).toNat)
    case atStart => exact ⟨0, Nat.zero_le _, rfl, hid (fun _ _ h => absurd h (Nat.not_lt_zero _)), hb0⟩
    case round =>
      clear hb0
      obtain ⟨k, hk, rfl, hq, hbl⟩ := hrel
      have hbw := hid (bl_step hB.out hbl.out)
      obtain ⟨y0, y1, y2, y3, y4⟩ := hk1.out wr hbl.out
      by_cases hlt : k < rn
      · have hltz : (k : Int) < (rn : Int) := by omega
        have hkl : k < g.rules.length := by rw [hrn.out]; exact hlt
        obtain ⟨b, o, q1, q3, e, x1, G⟩ := hKr.out wr hbw.out k hkl
        subst e
        have G := hid G
        generalize g.rules[k].re.length = rl at *
        cases hnb : nulB g.rules[k].re with
        | true =>
          have hC := hid (c7.out k hkl hnb hq.out)
          rw [hnb] at G
          clear hq hnb
          go_wp2_with (go_at_call 38; refine G.out.mono ?_; clear G; rintro e w3 ⟨rfl, hc3⟩; subst w3)
          go_ret2
          exact ⟨_, _, rfl, hC.out, hbw.out⟩
        | false =>
          have hq9 : Hid (∀ j (hj : j < g.rules.length), j < k + 1 → nulB g.rules[j].re = false) := hid (fun j hj h9 => by
            rcases Nat.lt_or_ge j k with h8 | h8
            · exact hq.out j hj h8
            · obtain rfl : j = k := by omega
              exact hnb)
          rw [hnb] at G
          clear hq hnb
          go_wp2_with (go_at_call 38; refine G.out.mono ?_; clear G; rintro e w3 ⟨rfl, hc3⟩; subst w3)
          go_roundw
          case rel => exact ⟨k + 1, by omega, by go_num, hq9, hbl⟩
          case measure => simp [intOf]; omega
      · have hltz : ¬ (k : Int) < (rn : Int) := by omega
        have hnul := hid (fun j (hj : j < g.rules.length) => hq.out j hj (by rw [hrn.out] at hj; omega))
        clear hq c7 hKr
        rcases Nat.eq_zero_or_pos nn with n0 | n0
        · have n0z : ((nn : Int) == 0) = true := by rw [n0]; rfl
          have hC := hid (c4.out hnul.out n0)
          clear n0 c4 c8 c9 c0
          go_wp2
          go_ret2
          exact ⟨_, _, rfl, hC.out, hbw.out⟩
        · have n0z : ((nn : Int) == 0) = false := by rw [beq_eq_false_iff_ne]; omega
          have d8 := hid (fun n h3 h4 h5 h6 => c8.out n hnul.out n0 h3 h4 h5 h6)
          have d9 := hid (fun n h3 h4 h5 h6 h7 => c9.out n hnul.out n0 h3 h4 h5 h6 h7)
          have d0 := hid (fun h3 => c0.out hnul.out n0 h3)
          clear c4 c8 c9 c0 n0 hnul
          go_wp2_with (first
            | (go_at_call 20; refine (GT.out _ hbw.out).mono ?_; clear GT; rintro e w3 ⟨rfl, hc3⟩; have hb3 := hid (bl_step hbl.out hc3); obtain ⟨x0, x1, x2, x3, x4⟩ := hk1.out w3 hb3.out; clear hc3)
            | (go_at_call 18; refine (GR.out _ (bl_step hB.out hb3.out)).mono ?_; clear GR; rintro e w4 ⟨v4, rfl, ⟨B4, hO4⟩, hc4⟩; have hb4 := hid (bl_step hb3.out hc4); obtain ⟨z0, z1, z2, z3, z4⟩ := hk1.out w4 hb4.out; have hN4 := hid (Nums.of_row hO4); clear hc4 hO4)
            | (go_at_call 19; refine (GE.out _ (bl_step hB.out hb4.out)).mono ?_; clear GE; rintro e w5 ⟨v5, rfl, ⟨B5, hO5⟩, hc5⟩; have hb5 := hid (bl_step hb4.out hc5); have hN5 := hid (Nums.of_row hO5); have hN6 := hid (hN4.out.keep hc5); clear hc5 hO5))
          clear n0z hltz hlt y0 y1 y2 y3 y4 x0 x1 x2 x3 x4 z0 z1 z2 z3 z4 hN4
          obtain ⟨y0, y1, y2, y3, y4⟩ := hk1.out w5 hb5.out
          obtain ⟨al, hal⟩ : ∃ x : Int, Hid ((tm : Int) + (nn : Int) = x) := ⟨_, hid rfl⟩
          have hz1 : (tm : Int) + (nn : Int) = al := hal.out
          have hbt : (tm : Int) ≤ 16 := by omega
          have hal2 : al ≤ 32 := by omega
          have hal3 := hid hall.out
          rw [hal.out] at hal3
          go_loopw [8] (fun i wr => ∃ n : Int, 0 ≤ n ∧ n ≤ 1000 ∧ i = .int .i64 n ∧ Hid ((tm : Int) < n ∧ n ≤ al + 1) ∧ Hid (∀ m, (tm : Int) < m → m < n → Rch g m) ∧ wr = w5) (fun i _ => (al + 1 - intOf i).toNat)
          case atStart => exact ⟨(tm : Int) + 1, by omega, by omega, by go_num, hid ⟨by omega, by omega⟩, hid (fun m h1 h2 => by omega), rfl⟩
          case round =>
            obtain ⟨n, p0, p1, rfl, hrg, hq, rfl⟩ := hrel
            have G := hid (numHas _ LR n wr lR.out hN6.out)
            by_cases a1 : n ≤ al
            · have a1b : decide (n ≤ al) = true := decide_eq_true a1
              cases hcc : LR.contains n with
              | false =>
                have hC := hid (d8.out n hrg.out.1 (by rw [hal3.out]; exact a1) (fun h => by rw [(hr1.out n).2 h] at hcc; cases hcc) (fun m h1 h2 => hq.out m h1 h2))
                rw [hcc] at G
                clear hq hrg hcc a1
                go_wp2_with (go_at_call 21; refine G.out.mono ?_; clear G; rintro e w6 ⟨rfl, hc6⟩; subst w6)
                go_ret2
                exact ⟨_, _, rfl, hC.out, bl_step hB.out hb5.out⟩
              | true =>
                have hrc := (hr1.out n).1 hcc
                have hq9 : Hid (∀ m, (tm : Int) < m → m < n + 1 → Rch g m) := hid (fun m h1 h2 => by
                  by_cases e : m = n
                  · rw [e]; exact hrc
                  · exact hq.out m h1 (by omega))
                have hr9 := hid (⟨by have := hrg.out; omega, by omega⟩ : (tm : Int) < n + 1 ∧ n + 1 ≤ al + 1)
                rw [hcc] at G
                clear hq hrg hcc hrc a1
                go_wp2_with (go_at_call 21; refine G.out.mono ?_; clear G; rintro e w6 ⟨rfl, hc6⟩; subst w6)
                go_roundw
                case rel => exact ⟨n + 1, by omega, by have := hr9.out; omega, by go_num, hr9, hq9, by first | rfl | trivial⟩
                case measure => have := hr9.out; simp [intOf]; omega
            · have a1b : decide (n ≤ al) = false := decide_eq_false a1
              have hrall := hid (fun m (h1 : (tm : Int) < m) (h2 : m ≤ al) => hq.out m h1 (by omega))
              clear hq hrg a1 G
              go_wp2
              clear a1b
              go_loopw [9] (fun i wr' => ∃ n : Int, 0 ≤ n ∧ n ≤ 1000 ∧ i = .int .i64 n ∧ Hid ((tm : Int) < n ∧ n ≤ al + 1) ∧ Hid (∀ m, (tm : Int) < m → m < n → Ends g m) ∧ wr' = wr) (fun i _ => (al + 1 - intOf i).toNat)
              case atStart => exact ⟨(tm : Int) + 1, by omega, by omega, by go_num, hid ⟨by omega, by omega⟩, hid (fun m h1 h2 => by omega), rfl⟩
              case round =>
                obtain ⟨n2, p2, p3, rfl, hrg, hq, rfl⟩ := hrel
                have G := hid (numHas _ LE n2 wr lE.out hN5.out)
                by_cases a1 : n2 ≤ al
                · have a1b : decide (n2 ≤ al) = true := decide_eq_true a1
                  cases hcc : LE.contains n2 with
                  | false =>
                    have hC := hid (d9.out n2 (fun m h1 h2 => hrall.out m h1 (by rw [hal3.out] at h2; exact h2)) hrg.out.1 (by rw [hal3.out]; exact a1) (fun h => by rw [(he1.out n2).2 h] at hcc; cases hcc) (fun m h1 h2 => hq.out m h1 h2))
                    rw [hcc] at G
                    clear hq hrg hcc a1
                    go_wp2_with (go_at_call 21; refine G.out.mono ?_; clear G; rintro e w6 ⟨rfl, hc6⟩; subst w6)
                    go_ret2
                    exact ⟨_, _, rfl, hC.out, bl_step hB.out hb5.out⟩
                  | true =>
                    have hrc := (he1.out n2).1 hcc
                    have hq9 : Hid (∀ m, (tm : Int) < m → m < n2 + 1 → Ends g m) := hid (fun m h1 h2 => by
                      by_cases e : m = n2
                      · rw [e]; exact hrc
                      · exact hq.out m h1 (by omega))
                    have hr9 := hid (⟨by have := hrg.out; omega, by omega⟩ : (tm : Int) < n2 + 1 ∧ n2 + 1 ≤ al + 1)
                    rw [hcc] at G
                    clear hq hrg hcc hrc a1
                    go_wp2_with (go_at_call 21; refine G.out.mono ?_; clear G; rintro e w6 ⟨rfl, hc6⟩; subst w6)
                    go_roundw
                    case rel => exact ⟨n2 + 1, by omega, by have := hr9.out; omega, by go_num, hr9, hq9, by first | rfl | trivial⟩
                    case measure => have := hr9.out; simp [intOf]; omega
                · have a1b : decide (n2 ≤ al) = false := decide_eq_false a1
                  have hC := hid (d0.out (fun m h1 h2 => ⟨hrall.out m h1 (by rw [hal3.out] at h2; exact h2), hq.out m h1 (by rw [hal3.out] at h2; omega)⟩))
                  clear hq hrg a1 G
                  go_wp2
                  go_ret2
                  exact ⟨_, _, rfl, hC.out, bl_step hB.out hb5.out⟩
  · rw [soundB_no hg] at G0
    have hC := hid (ChkR.arg hg)
    clear hV hB1 k1 hb hg hnl
    generalize g.rules.length = rn at *
    generalize g.nonts.length = nn at *
    generalize g.levels.length = ll at *
    generalize g.prods.length = pp at *
    generalize g.start = st at *
    go_enter Tryz.func14, Tryz.ntmps14
    go_wp2_with (go_at_call 12; refine G0.out.mono ?_; clear G0; rintro e w1 ⟨rfl, hc1⟩; have hc1 := hid hc1)
    go_ret2
    exact ⟨_, _, rfl, hC.out, bl_step hB.out hc1.out⟩

end Go.Proofs.YthgbjhnknepefaaGreat
