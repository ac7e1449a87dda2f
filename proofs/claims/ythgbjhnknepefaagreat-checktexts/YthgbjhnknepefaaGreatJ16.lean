/- What is asked of package gram; topiarylaw12.wakes. The reference: names. The reference: Sound. What is asked of layer 4's reference, kept; right rules are told to be right. -/
import Derived.Test.YthgbjhnknepefaaGreatJ14
import Derived.Test.YthgbjhnknepefaaGreatJ15
namespace Go.Proofs.YthgbjhnknepefaaGreat
open Go.RowKit Go.Maps Go.Sort

/-- what the law of sound grammars asks -/
structure SoundG (g : Gm) : Prop where
  levels : g.levels.length = g.terms + 1
  start : 0 < g.nonts.length → (g.terms : Int) < g.start ∧ g.start ≤ (g.all : Int)
  names : ∀ i j : Nat, 1 ≤ i → i < j → j ≤ g.all → g.name (i : Int) ≠ g.name (j : Int)
  prods : ∀ p ∈ g.prods, (g.terms : Int) < p.left ∧ p.left ≤ (g.all : Int) ∧ 0 ≤ p.prec ∧ p.prec ≤ (g.terms : Int) ∧ p.right.length ≤ 8 ∧ ∀ k ∈ p.right, 1 ≤ k ∧ k ≤ (g.all : Int)
structure BndG (g : Gm) : Prop where
  rules : g.rules.length ≤ 1000
  nonts : g.nonts.length ≤ 1000
  levels : g.levels.length ≤ 1000
  prods : g.prods.length ≤ 1000
  re : ∀ r ∈ g.rules, r.re.length ≤ 1000
  right : ∀ p ∈ g.prods, p.right.length ≤ 1000
def ex1 : Txt := [116, 111, 107, 101, 110, 32, 97, 32, 47, 120, 47, 59, 32, 115, 58, 32, 97, 32, 115, 32, 124, 32, 59]
def ex2 : Txt := [115, 58, 32, 98, 59]
/-- what is asked of gram.Parse: a grammar for each text, or none -/
structure PrsOK (prs : Txt → Option Gm) : Prop where
  yes : ∀ (s : Txt) (g : Gm) (u : World), s.length ≤ 1000000 → prs s = some g → Calls Tryz.prog 10 #[.string (strT s)] u fun e w' => ∃ rv nv lv pv, e = .returned (.tuple #[gmA rv nv lv pv g.start, .int .i64 0, .int .i64 0]) ∧ GmV w' rv nv lv pv g ∧ Below u.heap.size u w'
  no : ∀ (s : Txt) (u : World), s.length ≤ 1000000 → prs s = none → Calls Tryz.prog 10 #[.string (strT s)] u fun e w' => ∃ (ra na la pa : Option Addr) (rc nc lc pc : Nat) (st n er : Int), e = .returned (.tuple #[gmA (.slice ra 0 rc) (.slice na 0 nc) (.slice la 0 lc) (.slice pa 0 pc) st, .int .i64 n, .int .i64 er]) ∧ er ≠ 0 ∧ Below u.heap.size u w'
  ex : ∃ g, prs ex1 = some g ∧ g.start = 2 ∧ g.prods.length = 2 ∧ ∀ h : 0 < g.prods.length, g.prods[0].right = [1, 2]
  bad : ∀ u : World, Calls Tryz.prog 10 #[.string (strT ex2)] u fun e w' => ∃ (ra na la pa : Option Addr) (rc nc lc pc : Nat) (st : Int), e = .returned (.tuple #[gmA (.slice ra 0 rc) (.slice na 0 nc) (.slice la 0 lc) (.slice pa 0 pc) st, .int .i64 3, .int .i64 5]) ∧ Below u.heap.size u w'
  bnd : ∀ s g, prs s = some g → BndG g
theorem cells5m {w : World} {b t : Nat} {x0 x1 x2 x3 x4 : Value} (h : w.heap[b]? = some (.cells #[x0, x1, x2, x3, x4] t (0, 0))) : w.cell? ⟨b, 0, none⟩ = some x0 ∧ w.cell? ⟨b, 1, none⟩ = some x1 ∧ w.cell? ⟨b, 2, none⟩ = some x2 ∧ w.cell? ⟨b, 3, none⟩ = some x3 ∧ w.cell? ⟨b, 4, none⟩ = some x4 :=
  ⟨blk_cell h rfl, blk_cell h rfl, blk_cell h rfl, blk_cell h rfl, blk_cell h rfl⟩
end Go.Proofs.YthgbjhnknepefaaGreat
namespace Go.Proofs.YthgbjhnknepefaaGreat
open Go.RowKit Go.Maps Go.Sort

def namesB (g : Gm) : Bool := (g.rules.all fun r => rightB r.re) && (g.allN.all namB && decide g.allN.Nodup)
theorem namesB_right {g : Gm} {k : Nat} (hk : k < g.rules.length) (h : rightB g.rules[k].re = false) : namesB g = false := by
  unfold namesB
  have : (g.rules.all fun r => rightB r.re) = false := by
    rw [List.all_eq_false]
    exact ⟨_, List.getElem_mem hk, by rw [h]; decide⟩
  rw [this]; rfl
theorem namesB_named {g : Gm} {k : Nat} (hk : k < g.allN.length) (h : namB g.allN[k] = false) : namesB g = false := by
  unfold namesB
  have : g.allN.all namB = false := by
    rw [List.all_eq_false]
    exact ⟨_, List.getElem_mem hk, by rw [h]; decide⟩
  rw [this, Bool.false_and, Bool.and_false]
theorem namesB_twice {g : Gm} {k i : Nat} (hi : i < g.allN.length) (hk : k < i) (h : g.allN[k]'(by omega) = g.allN[i]) : namesB g = false := by
  unfold namesB
  have : decide g.allN.Nodup = false := decide_eq_false fun hn => by
    have := List.pairwise_iff_getElem.1 hn k i (by omega) hi hk
    exact this h
  rw [this, Bool.and_false, Bool.and_false]
theorem namesB_yes {g : Gm} (h1 : ∀ k (hk : k < g.rules.length), rightB g.rules[k].re = true) (h2 : ∀ k (hk : k < g.allN.length), namB g.allN[k] = true) (h3 : ∀ k i (hi : i < g.allN.length) (hk : k < i), g.allN[k]'(by omega) ≠ g.allN[i]) : namesB g = true := by
  unfold namesB
  have e1 : (g.rules.all fun r => rightB r.re) = true := by
    rw [List.all_eq_true]
    intro r hr
    obtain ⟨k, hk, rfl⟩ := List.getElem_of_mem hr
    exact h1 k hk
  have e2 : g.allN.all namB = true := by
    rw [List.all_eq_true]
    intro r hr
    obtain ⟨k, hk, rfl⟩ := List.getElem_of_mem hr
    exact h2 k hk
  have e3 : decide g.allN.Nodup = true := decide_eq_true (List.pairwise_iff_getElem.2 fun k i hk hi hki => h3 k i hi hki)
  rw [e1, e2, e3]; rfl
theorem strT_beq2 (s t : Txt) : ((strT s).toList == (strT t).toList) = decide (s = t) := by
  rw [strT_toL, strT_toL]
  by_cases h : s = t
  · subst h; simp
  · simp [h]
set_option maxRecDepth 20000 in
set_option maxHeartbeats 16000000 in
theorem namesC (g : Gm) (rv nv lv pv : Value) (w : World) (hV : GmV w rv nv lv pv g) (hr : g.rules.length ≤ 1000) (hn : g.nonts.length ≤ 1000) (hnl : ∀ t ∈ g.allN, t.length ≤ 1000000) :
    Calls Tryz.prog 31 #[gmA rv nv lv pv g.start] w fun e w' => e = .returned (.bool (namesB g)) ∧ Below w.heap.size w w' := by
  obtain ⟨ra, rc, rfl⟩ := hV.rules.shape
  obtain ⟨na, nc, rfl⟩ := hV.nonts.shape
  have hB1 := al' w (.cells #[.slice ra g.rules.length rc, .slice na g.nonts.length nc, lv, pv, .int .i64 g.start] 27)
  have k1 := heap_new w (.cells #[.slice ra g.rules.length rc, .slice na g.nonts.length nc, lv, pv, .int .i64 g.start] 27)
  obtain ⟨W, hW⟩ : ∃ x, w.alloc (.cells #[.slice ra g.rules.length rc, .slice na g.nonts.length nc, lv, pv, .int .i64 g.start] 27) = x := ⟨_, rfl⟩
  rw [hW] at hB1 k1
  have hk1 : Hid (∀ u, Below W.heap.size W u → u.cell? ⟨w.heap.size, 0, none⟩ = some (.slice ra g.rules.length rc) ∧ u.cell? ⟨w.heap.size, 1, none⟩ = some (.slice na g.nonts.length nc)) := hid (fun u hu => ⟨blk_cell (hs_keep k1 hu) rfl, blk_cell (hs_keep k1 hu) rfl⟩)
  have hB := hid hB1
  have hKr : Hid (∀ u, Below w.heap.size w u → ∀ k (hk : k < g.rules.length), ∃ b o q1 q3, ra = some ⟨b, o, none⟩ ∧ u.cell? ⟨b, o + k * 3, none⟩ = some (.string (strT g.rules[k].name)) ∧ u.cell? ⟨b, o + k * 3 + 1, none⟩ = some (.slice q1 g.rules[k].re.length q3) ∧ Calls Tryz.prog 53 #[.slice q1 g.rules[k].re.length q3] u fun e w' => e = .returned (.bool (rightB g.rules[k].re)) ∧ w' = u) := hid (fun u hu k hk => by
    obtain ⟨b, o, e, -, hx⟩ := (hV.keep hu).rules.at hk
    obtain ⟨v, x0, x1, x2, hN⟩ := hx
    have hN2 := hN
    obtain ⟨q1, q3, rfl, _⟩ := hN2
    exact ⟨b, o, q1, q3, e, x0, x1, rightC _ _ u hN⟩)
  have hKn : Hid (∀ u, Below w.heap.size w u → Lst 1 TxtAt u (.slice na g.nonts.length nc) g.nonts) := hid (fun u hu => (hV.keep hu).nonts)
  have hbr := hid (fun k (hk : k < g.rules.length) h => namesB_right hk h)
  have hbn := hid (fun k (hk : k < g.allN.length) h => namesB_named hk h)
  have hbt := hid (fun k i (hi : i < g.allN.length) (hk : k < i) h => namesB_twice hi hk h)
  have hby := hid (fun h1 h2 h3 => namesB_yes (g := g) h1 h2 h3)
  have GN := hid (fun k (hk : k < g.allN.length) u => namedC g.allN[k] u (hnl _ (List.getElem_mem hk)))
  obtain ⟨F1, hF1⟩ : ∃ F : Nat → List Txt, Hid (∀ k, (g.rules.take k).map Rl.name = F k) := ⟨_, hid (fun _ => rfl)⟩
  have s1 : Hid (∀ k (hk : k < g.rules.length), F1 (k + 1) = F1 k ++ [g.rules[k].name]) := hid (fun k hk => by
    rw [← hF1.out, ← hF1.out, List.take_add_one, List.getElem?_eq_getElem hk, Option.toList_some, List.map_append]
    rfl)
  have l1 : Hid (∀ k, (F1 k).length ≤ 1000) := hid (fun k => by rw [← hF1.out, List.length_map, List.length_take]; omega)
  have e1 : Hid (F1 g.rules.length ++ g.nonts = g.allN) := hid (by rw [← hF1.out, List.take_length]; rfl)
  have hO0 : Hid (OwnT W W.heap.size (.slice none 0 0) (F1 0)) := hid (by rw [← hF1.out]; exact World.ownsRow_nil _ _ _ _)
  have lA : g.allN.length ≤ 2000 := by unfold Gm.allN; rw [List.length_append, List.length_map]; omega
  clear hV hB1 k1 hF1 hnl
  generalize namesB g = R at *
  obtain ⟨rn, hrn⟩ : ∃ n, Hid (g.rules.length = n) := ⟨_, hid rfl⟩
  obtain ⟨nn, hnn⟩ : ∃ n, Hid (g.nonts.length = n) := ⟨_, hid rfl⟩
  rw [hrn.out] at hr hk1 hW e1 ⊢
  rw [hnn.out] at hn hk1 hW hKn ⊢
  generalize g.start = st at *
  go_enter Tryz.func31, Tryz.ntmps31
  go_wp2
  clear hW
  go_loopw [3, 4] (fun v i wr => ∃ k : Nat, k ≤ rn ∧ i = .int .i64 (k : Int) ∧ Hid (OwnT wr W.heap.size v (F1 k)) ∧ Hid (∀ j (hj : j < g.rules.length), j < k → rightB g.rules[j].re = true) ∧ Hid (Below W.heap.size W wr)) (fun _ i _ => rn - (intOf i).toNat)
  case atStart => exact ⟨0, Nat.zero_le _, rfl, hO0, hid (fun _ _ h => absurd h (Nat.not_lt_zero _)), hid (Below.refl _ _)⟩
  case round =>
    obtain ⟨k, hk, rfl, hO, hrt, hbl⟩ := hrel
    have hbw := hid (bl_step hB.out hbl.out)
    obtain ⟨y0, y1⟩ := hk1.out wr hbl.out
    by_cases hlt : k < rn
    · have hltz : (k : Int) < (rn : Int) := by omega
      have hkl : k < g.rules.length := by rw [hrn.out]; exact hlt
      obtain ⟨b, o, q1, q3, e, x0, x1, -⟩ := hKr.out wr hbw.out k hkl
      subst e
      have hal := al' wr (.cells #[.string (strT g.rules[k].name)] 9)
      have hOa := hid (own_below hO.out hal)
      have hDa := hid (txt_one wr g.rules[k].name)
      have hBa := hid (bl_step hbl.out hal)
      have hs := hid (s1.out k hkl)
      have hln := l1.out k
      have hap := hid (fun u (hu : Below W.heap.size W u) => hKr.out u (bl_step hB.out hu) k hkl)
      have hmore : Hid (rightB g.rules[k].re = true → ∀ j (hj : j < g.rules.length), j < k + 1 → rightB g.rules[j].re = true) := hid (fun h j hj h9 => by
        rcases Nat.lt_or_ge j k with h8 | h8
        · exact hrt.out j hj h8
        · obtain rfl : j = k := by omega
          exact h)
      have hb9 := hid (fun h => hbr.out k hkl h)
      clear hal hO hrt hbr
      generalize g.rules[k].name = nm at *
      generalize g.rules[k].re.length = rl at *
      cases hrb : rightB g.rules[k].re with
      | true =>
        have hm9 := hid (hmore.out hrb)
        rw [hrb] at hap
        clear hmore hb9
        go_wp2_with (first
          | (at_builtin; refine wp_appT _ rfl _ _ rfl W.heap.size (F1 k) [nm] _ _ rfl rfl hOa.out hDa.out (by simp; omega) hBa.out.size ?_; intro v3 w3 hO3 hb3; have hO4 : Hid (OwnT w3 W.heap.size v3 (F1 (k + 1))) := (by rw [hs.out]; exact hid hO3); have hb4 := hid (hBa.out.trans hb3); obtain ⟨z0, z1⟩ := hk1.out w3 hb4.out; obtain ⟨b', o', q1', q3', e', x0', x1', G'⟩ := hap.out w3 hb4.out; injection e' with e'; injection e' with e' e'' _; subst e' e''; have G' := hid G'; clear hO3 hb3 hap hOa hDa)
          | (go_at_call 53; refine G'.out.mono ?_; clear G'; rintro e w4 ⟨rfl, hc4⟩; subst w4))
        go_roundw
        case rel => exact ⟨k + 1, by omega, by go_num, hO4, hm9, hb4⟩
        case measure => simp [intOf]; omega
      | false =>
        obtain rfl := hb9.out hrb
        rw [hrb] at hap
        clear hmore hb9
        go_wp2_with (first
          | (at_builtin; refine wp_appT _ rfl _ _ rfl W.heap.size (F1 k) [nm] _ _ rfl rfl hOa.out hDa.out (by simp; omega) hBa.out.size ?_; intro v3 w3 hO3 hb3; have hb4 := hid (hBa.out.trans hb3); obtain ⟨z0, z1⟩ := hk1.out w3 hb4.out; obtain ⟨b', o', q1', q3', e', x0', x1', G'⟩ := hap.out w3 hb4.out; injection e' with e'; injection e' with e' e'' _; subst e' e''; have G' := hid G'; clear hO3 hb3 hap hOa hDa)
          | (go_at_call 53; refine G'.out.mono ?_; clear G'; rintro e w4 ⟨rfl, hc4⟩; subst w4))
        go_ret
        exact ⟨rfl, bl_step hB.out hb4.out⟩
    · have hltz : ¬ (k : Int) < (rn : Int) := by omega
      obtain rfl : k = rn := by omega
      have hD := hid (hKn.out wr hbw.out)
      have hln := l1.out k
      have hrt9 := hid (fun j (hj : j < g.rules.length) => hrt.out j hj (by rw [hrn.out] at hj; exact hj))
      clear hrt hKr hbr s1 l1
      go_wp2_with (at_builtin; refine wp_appT _ rfl _ _ rfl W.heap.size (F1 k) g.nonts _ _ rfl rfl hO.out hD.out (by rw [hnn.out]; omega) hbl.out.size ?_; intro v3 w3 hO3 hb3; rw [e1.out] at hO3; obtain ⟨va, vc, hve⟩ := own_shape hO3; subst hve; have hb4 := hid (hbl.out.trans hb3); have hO4 := hid hO3; clear hO3 hb3 hO hD)
      clear hltz hlt hk hbl hbw y0 y1 hKn hln hk1
      have hcell : Hid (∀ u, Below w3.heap.size w3 u → ∀ j (hj : j < g.allN.length), ∃ gb, va = some ⟨gb, 0, none⟩ ∧ u.cell? ⟨gb, j, none⟩ = some (.string (strT g.allN[j]))) := hid (fun u hu j hj => by
        obtain ⟨gb, e, hc⟩ := OwnT.at (own_below hO4.out hu) hj
        refine ⟨gb, e, ?_⟩
        rw [hc, List.getD_eq_getElem?_getD, List.getElem?_eq_getElem hj]
        rfl)
      obtain ⟨n, hnA⟩ : ∃ n, Hid (g.allN.length = n) := ⟨_, hid rfl⟩
      have hB4 := hid (bl_step hB.out hb4.out)
      rw [hnA.out] at lA ⊢
      clear hO4
      go_loopw [5] (fun i wr => ∃ k : Nat, k ≤ n ∧ i = .int .i64 (k : Int) ∧ Hid (∀ j (hj : j < g.allN.length), j < k → namB g.allN[j] = true) ∧ Hid (∀ a b (hb : b < g.allN.length) (hab : a < b), b < k → g.allN[a]'(by omega) ≠ g.allN[b]) ∧ Hid (Below w3.heap.size w3 wr)) (fun i _ => n - (intOf i).toNat)
      case atStart => exact ⟨0, Nat.zero_le _, rfl, hid (fun _ _ h => absurd h (Nat.not_lt_zero _)), hid (fun _ _ _ _ h => absurd h (Nat.not_lt_zero _)), hid (Below.refl _ _)⟩
      case round =>
        obtain ⟨k2, hk2, rfl, hq1, hq2, hbl⟩ := hrel
        by_cases hlt : k2 < n
        · have hltz : (k2 : Int) < (n : Int) := by omega
          have hkl : k2 < g.allN.length := by rw [hnA.out]; exact hlt
          obtain ⟨gb, e, x0⟩ := hcell.out _ hbl.out k2 hkl
          subst e
          have G := hid (GN.out k2 hkl wr)
          have hbn9 := hid (fun h => hbn.out k2 hkl h)
          cases hnb : namB g.allN[k2] with
          | false =>
            obtain rfl := hbn9.out hnb
            rw [hnb] at G
            clear hnb hq1 hq2 hbn9
            generalize g.allN[k2] = tx at *
            go_wp2_with (go_at_call 54; refine G.out.mono ?_; clear G; rintro e w4 ⟨rfl, hc4⟩; subst w4)
            go_ret
            exact ⟨rfl, bl_step hB4.out hbl.out⟩
          | true =>
            rw [hnb] at G
            have hq3 : Hid (∀ j (hj : j < g.allN.length), j < k2 + 1 → namB g.allN[j] = true) := hid (fun j hj h9 => by
              rcases Nat.lt_or_ge j k2 with h8 | h8
              · exact hq1.out j hj h8
              · obtain rfl : j = k2 := by omega
                exact hnb)
            clear hnb hq1 hbn9
            go_wp2_with (go_at_call 54; refine G.out.mono ?_; clear G; rintro e w4 ⟨rfl, hc4⟩; subst w4)
            clear x0 hltz
            go_loopw [6] (fun i wr => ∃ m : Nat, m ≤ k2 ∧ i = .int .i64 (m : Int) ∧ Hid (∀ a (ha : a < k2), a < m → g.allN[a]'(by omega) ≠ g.allN[k2]) ∧ Hid (Below w3.heap.size w3 wr)) (fun i _ => k2 - (intOf i).toNat)
            case atStart => exact ⟨0, Nat.zero_le _, rfl, hid (fun _ _ h => absurd h (Nat.not_lt_zero _)), hbl⟩
            case round =>
              clear hbl
              obtain ⟨m, hm, rfl, hq4, hbl⟩ := hrel
              by_cases hlm : m < k2
              · have hlmz : (m : Int) < (k2 : Int) := by omega
                have hmn : (m : Int) < (n : Int) := by omega
                have hkn : (k2 : Int) < (n : Int) := by omega
                have hml : m < g.allN.length := by omega
                obtain ⟨gb1, e1, x1⟩ := hcell.out _ hbl.out m hml
                obtain ⟨gb2, e2, x2⟩ := hcell.out _ hbl.out k2 hkl
                injection e1 with e1
                injection e1 with e1 _ _
                injection e2 with e2
                injection e2 with e2 _ _
                subst e1 e2
                by_cases he : g.allN[m] = g.allN[k2]
                · obtain rfl := hbt.out m k2 hkl hlm he
                  have hz : ((strT g.allN[m]).toList == (strT g.allN[k2]).toList) = true := by rw [strT_beq2]; exact decide_eq_true he
                  clear hq4 hq2 he hq3
                  generalize strT g.allN[m] = s1 at *
                  generalize strT g.allN[k2] = s2 at *
                  go_wp2_with fail
                  go_quiet (fail)
                  go_wp2
                  go_ret
                  exact ⟨rfl, by first | exact bl_step hB4.out (belowN hbl.out) | exact bl_step hB4.out (belowN (belowN hbl.out))⟩
                · have hq5 : Hid (∀ a (ha : a < k2), a < m + 1 → g.allN[a]'(by omega) ≠ g.allN[k2]) := hid (fun a ha h9 => by
                    rcases Nat.lt_or_ge a m with h8 | h8
                    · exact hq4.out a ha h8
                    · obtain rfl : a = m := by omega
                      exact he)
                  have hz : ((strT g.allN[m]).toList == (strT g.allN[k2]).toList) = false := by rw [strT_beq2]; exact decide_eq_false he
                  clear hq4 he
                  generalize strT g.allN[m] = s1 at *
                  generalize strT g.allN[k2] = s2 at *
                  go_wp2_with fail
                  go_quiet (fail)
                  go_wp2
                  go_roundw
                  case rel => exact ⟨m + 1, by omega, by go_num, hq5, hid (by first | exact belowN hbl.out | exact belowN (belowN hbl.out))⟩
                  case measure => simp [intOf]; omega
              · have hlmz : ¬ (m : Int) < (k2 : Int) := by omega
                have hq6 : Hid (∀ a b (hb : b < g.allN.length) (hab : a < b), b < k2 + 1 → g.allN[a]'(by omega) ≠ g.allN[b]) := hid (fun a b hb hab h9 => by
                  rcases Nat.lt_or_ge b k2 with h8 | h8
                  · exact hq2.out a b hb hab h8
                  · obtain rfl : b = k2 := by omega
                    exact hq4.out a hab (by omega))
                clear hq4 hq2
                go_wp2
                go_roundw
                case rel => exact ⟨k2 + 1, by omega, by go_num, hq3, hq6, hbl⟩
                case measure => simp [intOf]; omega
        · have hltz : ¬ (k2 : Int) < (n : Int) := by omega
          obtain rfl := hby.out hrt9.out (fun j hj => hq1.out j hj (by rw [hnA.out] at hj; omega)) (fun a b hb hab => hq2.out a b hb hab (by rw [hnA.out] at hb; omega))
          clear hq1 hq2
          go_wp2
          go_ret
          exact ⟨rfl, bl_step hB4.out hbl.out⟩

end Go.Proofs.YthgbjhnknepefaaGreat
namespace Go.Proofs.YthgbjhnknepefaaGreat
open Go.RowKit Go.Maps Go.Sort

theorem namesB_iff (g : Gm) : namesB g = true ↔ (∀ r ∈ g.rules, rightB r.re = true) ∧ (∀ t ∈ g.allN, namB t = true) ∧ g.allN.Nodup := by
  unfold namesB
  simp only [Bool.and_eq_true, List.all_eq_true, decide_eq_true_eq]
noncomputable def soundB (g : Gm) : Bool := open Classical in decide (SndG g)
theorem soundB_no {g : Gm} (h : ¬ SndG g) : soundB g = false := by unfold soundB; exact @decide_eq_false _ (Classical.propDecidable _) h
theorem soundB_yes {g : Gm} (h : SndG g) : soundB g = true := by unfold soundB; exact @decide_eq_true _ (Classical.propDecidable _) h
theorem lvB_no {i : Nat} {l : Int × Int} (h1 : ¬ (l.1 = 0 ∧ l.2 = 0)) (h2 : ¬ (0 < l.1 ∧ 0 < l.2 ∧ l.2 < 4 ∧ i ≠ 0)) : lvB i l = false := by
  rw [Bool.eq_false_iff]
  intro h
  unfold lvB at h
  simp only [Bool.or_eq_true, Bool.and_eq_true, decide_eq_true_eq] at h
  rcases h with h | h
  · exact h1 h
  · exact h2 ⟨h.1.1.1, h.1.1.2, h.1.2, h.2⟩
theorem lvB_yes {i : Nat} {l : Int × Int} (h : (l.1 = 0 ∧ l.2 = 0) ∨ (0 < l.1 ∧ 0 < l.2 ∧ l.2 < 4 ∧ i ≠ 0)) : lvB i l = true := by
  unfold lvB
  simp only [Bool.or_eq_true, Bool.and_eq_true, decide_eq_true_eq]
  rcases h with h | h
  · exact .inl h
  · exact .inr ⟨⟨⟨h.1, h.2.1⟩, h.2.2.1⟩, h.2.2.2⟩
theorem pdB_parts (g : Gm) (p : Pd) : ((p.left ≤ (g.terms : Int) ∨ (g.all : Int) < p.left ∨ 8 < p.right.length ∨ p.prec < 0 ∨ (g.terms : Int) < p.prec ∨ ∃ j, ∃ hj : j < p.right.length, p.right[j] < 1 ∨ (g.all : Int) < p.right[j]) → pdB g p = false) ∧
    (¬ p.left ≤ (g.terms : Int) → ¬ (g.all : Int) < p.left → ¬ 8 < p.right.length → ¬ p.prec < 0 → ¬ (g.terms : Int) < p.prec → (∀ j (hj : j < p.right.length), 1 ≤ p.right[j] ∧ p.right[j] ≤ (g.all : Int)) → pdB g p = true) := by
  refine ⟨fun h => ?_, fun h1 h2 h3 h4 h5 h6 => ?_⟩
  · rw [Bool.eq_false_iff]
    intro hp
    unfold pdB at hp
    simp only [Bool.and_eq_true, decide_eq_true_eq, List.all_eq_true] at hp
    obtain ⟨⟨⟨⟨⟨p1, p2⟩, p3⟩, p4⟩, p5⟩, p6⟩ := hp
    rcases h with h | h | h | h | h | ⟨j, hj, h⟩
    · omega
    · omega
    · omega
    · omega
    · omega
    · have := p6 _ (List.getElem_mem hj)
      omega
  · unfold pdB
    simp only [Bool.and_eq_true, decide_eq_true_eq, List.all_eq_true]
    refine ⟨⟨⟨⟨⟨by omega, by omega⟩, by omega⟩, by omega⟩, by omega⟩, fun k hk => ?_⟩
    obtain ⟨j, hj, rfl⟩ := List.getElem_of_mem hk
    exact h6 j hj
theorem cells3h {w : World} {b t : Nat} {x0 x1 x2 : Value} (h : w.heap[b]? = some (.cells #[x0, x1, x2] t (0, 0))) : w.cell? ⟨b, 0, none⟩ = some x0 ∧ w.cell? ⟨b, 1, none⟩ = some x1 ∧ w.cell? ⟨b, 2, none⟩ = some x2 := ⟨blk_cell h rfl, blk_cell h rfl, blk_cell h rfl⟩
set_option maxRecDepth 20000 in
set_option maxHeartbeats 16000000 in
theorem refSound (g : Gm) (rv nv lv pv : Value) (w : World) (hV : GmV w rv nv lv pv g) (hb : BndG g) (hnl : ∀ t ∈ g.allN, t.length ≤ 1000000) :
    Calls Tryz.prog 12 #[gmA rv nv lv pv g.start] w fun e w' => e = .returned (.bool (soundB g)) ∧ Below w.heap.size w w' := by
  obtain ⟨ra, rc, rfl⟩ := hV.rules.shape
  obtain ⟨na, nc, rfl⟩ := hV.nonts.shape
  obtain ⟨la, lc, rfl⟩ := hV.levels.shape
  obtain ⟨pa, pc, rfl⟩ := hV.prods.shape
  have hB1 := al' w (.cells #[.slice ra g.rules.length rc, .slice na g.nonts.length nc, .slice la g.levels.length lc, .slice pa g.prods.length pc, .int .i64 g.start] 27)
  have k1 := heap_new w (.cells #[.slice ra g.rules.length rc, .slice na g.nonts.length nc, .slice la g.levels.length lc, .slice pa g.prods.length pc, .int .i64 g.start] 27)
  obtain ⟨W, hW⟩ : ∃ x, w.alloc (.cells #[.slice ra g.rules.length rc, .slice na g.nonts.length nc, .slice la g.levels.length lc, .slice pa g.prods.length pc, .int .i64 g.start] 27) = x := ⟨_, rfl⟩
  rw [hW] at hB1 k1
  have hk1 := hid (fun u (hu : Below W.heap.size W u) => cells5m (hs_keep k1 hu))
  have hB := hid hB1
  have b1 := hb.rules
  have b2 := hb.nonts
  have b3 := hb.levels
  have b4 := hb.prods
  have hKl : Hid (∀ u, Below w.heap.size w u → ∀ k (hk : k < g.levels.length), ∃ b o, la = some ⟨b, o, none⟩ ∧ u.cell? ⟨b, o + k * 2, none⟩ = some (.int .i64 g.levels[k].1) ∧ u.cell? ⟨b, o + k * 2 + 1, none⟩ = some (.int .i64 g.levels[k].2)) := hid (fun u hu k hk => by
    obtain ⟨b, o, e, -, hx⟩ := (hV.keep hu).levels.at hk
    exact ⟨b, o, e, hx.1, hx.2⟩)
  have hKp : Hid (∀ u, Below w.heap.size w u → ∀ k (hk : k < g.prods.length), ∃ b o q1 q3, pa = some ⟨b, o, none⟩ ∧ u.cell? ⟨b, o + k * 3, none⟩ = some (.int .i64 g.prods[k].left) ∧ u.cell? ⟨b, o + k * 3 + 1, none⟩ = some (.slice q1 g.prods[k].right.length q3) ∧ u.cell? ⟨b, o + k * 3 + 2, none⟩ = some (.int .i64 g.prods[k].prec) ∧ Nums u (.slice q1 g.prods[k].right.length q3) g.prods[k].right) := hid (fun u hu k hk => by
    obtain ⟨b, o, e, -, hx⟩ := (hV.keep hu).prods.at hk
    obtain ⟨v, x0, x1, x2, hN⟩ := hx
    have hN2 := hN
    obtain ⟨q1, q3, rfl, _⟩ := hN2
    exact ⟨b, o, q1, q3, e, x0, x1, x2, hN⟩)
  have GM := hid (fun u (hu : Below w.heap.size w u) => namesC g _ _ _ _ u (hV.keep hu) b1 b2 hnl)
  have GT := hid (fun u (hu : Below w.heap.size w u) => refTermsC _ _ _ _ g u (hV.keep hu) (by omega))
  have hall : Hid ((g.all : Int) = (g.terms : Int) + (g.nonts.length : Int)) := hid (by unfold Gm.all; omega)
  have btm : g.terms ≤ 1000 := Nat.le_trans (trmK_le _ _) b1
  have f1 := hid (fun (h : 16 < g.rules.length) => soundB_no (g := g) (fun hs => by have := hs.rules; omega))
  have f2 := hid (fun (h : 16 < g.nonts.length) => soundB_no (g := g) (fun hs => by have := hs.nonts; omega))
  have f3 := hid (fun (h : 40 < g.prods.length) => soundB_no (g := g) (fun hs => by have := hs.prods; omega))
  have f4 := hid (fun (h : namesB g = false) => soundB_no (g := g) (fun hs => by
    have := (namesB_iff g).2 ⟨hs.right, hs.named, hs.once⟩
    rw [h] at this
    cases this))
  have f5 := hid (fun (h : g.levels.length ≠ g.terms + 1) => soundB_no (g := g) (fun hs => h hs.levels))
  have f6 := hid (fun k (hk : k < g.levels.length) (h : lvB k g.levels[k] = false) => soundB_no (g := g) (fun hs => by
    have := hs.lev k hk
    rw [h] at this
    cases this))
  have f7 := hid (fun (h0 : g.nonts.length = 0) (h : g.start ≠ 0) => soundB_no (g := g) (fun hs => h (hs.none h0)))
  have f8 := hid (fun (h0 : 0 < g.nonts.length) (h : ¬ ((g.terms : Int) < g.start ∧ g.start ≤ (g.all : Int))) => soundB_no (g := g) (fun hs => h (hs.start h0)))
  have hfp := hid (fun k (hk : k < g.prods.length) (h : pdB g g.prods[k] = false) => soundB_no (g := g) (fun hs => by
    have := hs.prod _ (List.getElem_mem hk)
    rw [h] at this
    cases this))
  have fy := hid (fun (h1 : ¬ 16 < g.rules.length) (h2 : ¬ 16 < g.nonts.length) (h3 : ¬ 40 < g.prods.length) (h4 : namesB g = true) (h5 : g.levels.length = g.terms + 1) (h6 : ∀ k (hk : k < g.levels.length), lvB k g.levels[k] = true) (h7 : g.nonts.length = 0 → g.start = 0) (h8 : 0 < g.nonts.length → (g.terms : Int) < g.start ∧ g.start ≤ (g.all : Int)) (h9 : ∀ k (hk : k < g.prods.length), pdB g g.prods[k] = true) => soundB_yes (g := g) ⟨by omega, by omega, by omega, ((namesB_iff g).1 h4).1, ((namesB_iff g).1 h4).2.1, ((namesB_iff g).1 h4).2.2, h5, h6, h7, h8, fun p hp => by
    obtain ⟨k, hk, rfl⟩ := List.getElem_of_mem hp
    exact h9 k hk⟩)
  clear hV hb hB1 k1 hnl
  generalize soundB g = R at *
  obtain ⟨y0, y1, y2, y3, y4⟩ := hk1.out W (Below.refl _ _)
  obtain ⟨rn, hrn⟩ : ∃ n, Hid (g.rules.length = n) := ⟨_, hid rfl⟩
  obtain ⟨nn, hnn⟩ : ∃ n, Hid (g.nonts.length = n) := ⟨_, hid rfl⟩
  obtain ⟨ll, hll⟩ : ∃ n, Hid (g.levels.length = n) := ⟨_, hid rfl⟩
  obtain ⟨pp, hpp⟩ : ∃ n, Hid (g.prods.length = n) := ⟨_, hid rfl⟩
  obtain ⟨tm, htm⟩ : ∃ n, Hid (g.terms = n) := ⟨_, hid rfl⟩
  rw [hrn.out] at b1 hk1 GM GT hW f1 fy y0 ⊢
  rw [hnn.out] at b2 hk1 GM GT hW f2 f7 f8 fy hall y1 ⊢
  rw [hll.out] at b3 hk1 GM GT hW f5 y2 ⊢
  rw [hpp.out] at b4 hk1 GM GT hW f3 y3 ⊢
  rw [htm.out] at f5 f8 hall btm GT
  have hpd0 : Hid (∀ p, ((p.left ≤ (tm : Int) ∨ (g.all : Int) < p.left ∨ 8 < p.right.length ∨ p.prec < 0 ∨ (tm : Int) < p.prec ∨ ∃ j, ∃ hj : j < p.right.length, p.right[j] < 1 ∨ (g.all : Int) < p.right[j]) → pdB g p = false) ∧ (¬ p.left ≤ (tm : Int) → ¬ (g.all : Int) < p.left → ¬ 8 < p.right.length → ¬ p.prec < 0 → ¬ (tm : Int) < p.prec → (∀ j (hj : j < p.right.length), 1 ≤ p.right[j] ∧ p.right[j] ≤ (g.all : Int)) → pdB g p = true)) := hid (fun p => by have := pdB_parts g p; rw [htm.out] at this; exact this)
  by_cases c1 : (16 : Int) < (rn : Int)
  · obtain rfl := f1.out (by omega)
    clear GM GT f2 f3 f4 f5 f6 f7 f8 hfp fy
    generalize g.start = st at *
    go_enter Tryz.func12, Tryz.ntmps12
    go_wp2
    go_ret
    exact ⟨rfl, hB.out⟩
  by_cases c2 : (16 : Int) < (nn : Int)
  · obtain rfl := f2.out (by omega)
    clear GM GT f1 f3 f4 f5 f6 f7 f8 hfp fy
    generalize g.start = st at *
    go_enter Tryz.func12, Tryz.ntmps12
    go_wp2
    go_ret
    exact ⟨rfl, hB.out⟩
  by_cases c3 : (40 : Int) < (pp : Int)
  · obtain rfl := f3.out (by omega)
    clear GM GT f1 f2 f4 f5 f6 f7 f8 hfp fy
    generalize g.start = st at *
    go_enter Tryz.func12, Tryz.ntmps12
    go_wp2
    go_ret
    exact ⟨rfl, hB.out⟩
  have G1 := hid (GM.out W hB.out)
  cases hnm : namesB g with
  | false =>
    obtain rfl := f4.out hnm
    rw [hnm] at G1
    clear GM GT f1 f2 f3 f5 f6 f7 f8 hfp fy hnm f4
    generalize g.start = st at *
    go_enter Tryz.func12, Tryz.ntmps12
    go_wp2_with (go_at_call 31; refine G1.out.mono ?_; clear G1; rintro e w1 ⟨rfl, hc1⟩; have hc1 := hid hc1)
    go_ret
    exact ⟨rfl, bl_step hB.out hc1.out⟩
  | true =>
    rw [hnm] at G1
    have fy1 := hid (fun h5 h6 h7 h8 h9 => fy.out (by omega) (by have := hnn.out; omega) (by have := hpp.out; omega) hnm h5 h6 h7 h8 h9)
    have GT1 := hid (fun u (hu : Below W.heap.size W u) => GT.out u (bl_step hB.out hu))
    clear GM GT f1 f2 f3 f4 fy hnm
    by_cases c5 : ll = tm + 1
    · have c5z : ((ll : Int) != (tm : Int) + 1) = false := by rw [c5]; simp
      have c5H := hid c5
      clear c5
      have hst := hid (rfl : g.start = g.start)
      clear hst
      generalize hgs : g.start = st at *
      have hgs := hid hgs
      go_enter Tryz.func12, Tryz.ntmps12
      go_wp2_with (first
        | (go_at_call 31; refine G1.out.mono ?_; clear G1; rintro e w1 ⟨rfl, hc1⟩; have hc1 := hid hc1; obtain ⟨x0, x1, x2, x3, x4⟩ := hk1.out w1 hc1.out)
        | (go_at_call 20; refine (GT1.out w1 hc1.out).mono ?_; clear GT1; rintro e w2 ⟨rfl, hc2⟩; have hc2 := hid (bl_step hc1.out hc2); obtain ⟨z0, z1, z2, z3, z4⟩ := hk1.out w2 hc2.out))
      clear c5z hW y0 y1 y2 y3 y4 x0 x1 x2 x3 x4 z0 z1 z2 z3 z4 c1 c3
      generalize hal : (tm : Int) + (nn : Int) = al at *
      have hal := hid hal
      go_loopw [5] (fun i wr => ∃ k : Nat, k ≤ ll ∧ i = .int .i64 (k : Int) ∧ Hid (∀ j (hj : j < g.levels.length), j < k → lvB j g.levels[j] = true) ∧ Hid (Below W.heap.size W wr)) (fun i _ => ll - (intOf i).toNat)
      case atStart => exact ⟨0, Nat.zero_le _, rfl, hid (fun _ _ h => absurd h (Nat.not_lt_zero _)), hc2⟩
      case round =>
        clear hc1 hc2
        obtain ⟨k, hk, rfl, hq, hbl⟩ := hrel
        have hbw := hid (bl_step hB.out hbl.out)
        obtain ⟨y0, y1, y2, y3, y4⟩ := hk1.out wr hbl.out
        by_cases hlt : k < ll
        · have hltz : (k : Int) < (ll : Int) := by omega
          have hkl : k < g.levels.length := by rw [hll.out]; exact hlt
          obtain ⟨b, o, e, x0, x1⟩ := hKl.out wr hbw.out k hkl
          subst e
          have hno := hid (fun h1 h2 => f6.out k hkl (lvB_no h1 h2))
          have hok := hid (fun (h : (g.levels[k].1 = 0 ∧ g.levels[k].2 = 0) ∨ (0 < g.levels[k].1 ∧ 0 < g.levels[k].2 ∧ g.levels[k].2 < 4 ∧ k ≠ 0)) => (fun j hj h9 => by
            rcases Nat.lt_or_ge j k with h8 | h8
            · exact hq.out j hj h8
            · obtain rfl : j = k := by omega
              exact lvB_yes h : ∀ j (hj : j < g.levels.length), j < k + 1 → lvB j g.levels[j] = true))
          have hb1 := hid (bl_step hbl.out (al' wr (.cells #[.int .i64 g.levels[k].1, .int .i64 g.levels[k].2] 73)))
          clear hq
          generalize g.levels[k] = lx at *
          obtain ⟨p, d⟩ := lx
          dsimp only at *
          by_cases a1 : p = 0
          · have a1z : (p == 0) = true := by rw [a1]; rfl
            by_cases a2 : d = 0
            · have a2z : (d == 0) = true := by rw [a2]; rfl
              have a3 : ¬ 0 < p := by omega
              have hq9 := hid (hok.out (.inl ⟨a1, a2⟩))
              clear hok hno a1 a2
              go_wp2
              go_roundw
              case rel => exact ⟨k + 1, by omega, by go_num, hq9, hb1⟩
              case measure => simp [intOf]; omega
            · have a2z : (d == 0) = false := by rw [beq_eq_false_iff_ne]; exact a2
              have a3 : ¬ 0 < p := by omega
              obtain rfl := hno.out (fun h => a2 h.2) (fun h => a3 h.1)
              clear hok hno a1 a2
              go_wp2
              go_ret
              exact ⟨rfl, bl_step hB.out hb1.out⟩
          have a1z : (p == 0) = false := by rw [beq_eq_false_iff_ne]; exact a1
          by_cases a3 : 0 < p
          · by_cases a4 : 0 < d
            · by_cases a5 : d < 4
              · rcases Nat.eq_zero_or_pos k with a6 | a6
                · have a6z : ((k : Int) == 0) = true := by rw [a6]; rfl
                  obtain rfl := hno.out (fun h => a1 h.1) (fun h => h.2.2.2 a6)
                  clear hok hno a1 a6
                  go_wp2
                  go_ret
                  exact ⟨rfl, bl_step hB.out hb1.out⟩
                · have a6z : ((k : Int) == 0) = false := by rw [beq_eq_false_iff_ne]; omega
                  have hq9 := hid (hok.out (.inr ⟨a3, a4, a5, by omega⟩))
                  clear hok hno a1
                  go_wp2
                  go_roundw
                  case rel => exact ⟨k + 1, by omega, by go_num, hq9, hb1⟩
                  case measure => simp [intOf]; omega
              · obtain rfl := hno.out (fun h => a1 h.1) (fun h => a5 h.2.2.1)
                clear hok hno a1
                go_wp2
                go_ret
                exact ⟨rfl, bl_step hB.out hb1.out⟩
            · obtain rfl := hno.out (fun h => a1 h.1) (fun h => a4 h.2.1)
              clear hok hno a1
              go_wp2
              go_ret
              exact ⟨rfl, bl_step hB.out hb1.out⟩
          · obtain rfl := hno.out (fun h => a1 h.1) (fun h => a3 h.1)
            clear hok hno a1
            go_wp2
            go_ret
            exact ⟨rfl, bl_step hB.out hb1.out⟩
        · have hltz : ¬ (k : Int) < (ll : Int) := by omega
          have fy2 := hid (fun h7 h8 h9 => fy1.out (by rw [hll.out, htm.out]; exact c5H.out) (fun j hj => hq.out j hj (by rw [hll.out] at hj; omega)) h7 h8 h9)
          clear hq fy1 f6 f5
          rcases Nat.eq_zero_or_pos nn with n0 | n0
          · have n0z : ((nn : Int) == 0) = true := by rw [n0]; rfl
            have n0y : ¬ (0 : Int) < (nn : Int) := by omega
            by_cases s0 : st = 0
            · have s0z : (st != 0) = false := by rw [s0]; rfl
              have hfin := hid (fun h9 => fy2.out (fun _ => s0) (fun h => absurd h (by omega)) h9)
              clear fy2 f7 f8 s0 n0
              go_wp2
              clear hltz hlt hk hbw y0 y1 y2 y3 y4 s0z n0z n0y
              go_loopw [9] (fun i wr => ∃ k : Nat, k ≤ pp ∧ i = .int .i64 (k : Int) ∧ Hid (∀ j (hj : j < g.prods.length), j < k → pdB g g.prods[j] = true) ∧ Hid (Below W.heap.size W wr)) (fun i _ => pp - (intOf i).toNat)
              case atStart => exact ⟨0, Nat.zero_le _, rfl, hid (fun _ _ h => absurd h (Nat.not_lt_zero _)), hbl⟩
              case round =>
                clear hbl
                obtain ⟨k, hk, rfl, hq, hbl⟩ := hrel
                have hbw := hid (bl_step hB.out hbl.out)
                obtain ⟨y0, y1, y2, y3, y4⟩ := hk1.out wr hbl.out
                by_cases hlt : k < pp
                · have hltz : (k : Int) < (pp : Int) := by omega
                  have hkl : k < g.prods.length := by rw [hpp.out]; exact hlt
                  obtain ⟨b, o, q1, q3, e, x0, x1, x2, hN⟩ := hKp.out wr hbw.out k hkl
                  subst e
                  have hf9 := hid (fun h => hfp.out k hkl h)
                  have hpd := hid (hpd0.out g.prods[k])
                  have hmore : Hid (pdB g g.prods[k] = true → ∀ j (hj : j < g.prods.length), j < k + 1 → pdB g g.prods[j] = true) := hid (fun h j hj h9 => by
                    rcases Nat.lt_or_ge j k with h8 | h8
                    · exact hq.out j hj h8
                    · obtain rfl : j = k := by omega
                      exact h)
                  have hal := al' wr (.cells #[.int .i64 g.prods[k].left, .slice q1 g.prods[k].right.length q3, .int .i64 g.prods[k].prec] 43)
                  obtain ⟨u0, u1, u2⟩ := cells3h (heap_new wr (.cells #[.int .i64 g.prods[k].left, .slice q1 g.prods[k].right.length q3, .int .i64 g.prods[k].prec] 43))
                  have hb1 := hid (bl_step hbl.out hal)
                  have hbx : Hid (∀ u, Below (wr.alloc (.cells #[.int .i64 g.prods[k].left, .slice q1 g.prods[k].right.length q3, .int .i64 g.prods[k].prec] 43)).heap.size (wr.alloc (.cells #[.int .i64 g.prods[k].left, .slice q1 g.prods[k].right.length q3, .int .i64 g.prods[k].prec] 43)) u → u.cell? ⟨wr.heap.size, 1, none⟩ = some (.slice q1 g.prods[k].right.length q3)) := hid (fun u hu => keep_cell hu u1)
                  have hNk := hid (fun u hu => hN.keep (w' := u) (bl_step hal hu))
                  obtain ⟨W3, hW3⟩ : ∃ x, wr.alloc (.cells #[.int .i64 g.prods[k].left, .slice q1 g.prods[k].right.length q3, .int .i64 g.prods[k].prec] 43) = x := ⟨_, rfl⟩
                  rw [hW3] at hb1 u0 u1 u2 hbx hNk
                  clear hq hal hN
                  obtain ⟨rl, hrl⟩ : ∃ n, Hid (g.prods[k].right.length = n) := ⟨_, hid rfl⟩
                  rw [hrl.out] at x1 u1 hW3 hbx hNk
                  generalize g.prods[k].left = xl at *
                  generalize g.prods[k].prec = xp at *
                  by_cases c1 : xl ≤ (tm : Int)
                  · obtain rfl := hf9.out (hpd.out.1 (.inl c1))
                    clear hmore hf9 hpd hNk hbx
                    go_wp2
                    go_ret
                    exact ⟨rfl, bl_step hB.out hb1.out⟩
                  by_cases c2 : al < xl
                  · obtain rfl := hf9.out (hpd.out.1 (.inr (.inl (by have := hall.out; omega))))
                    clear hmore hf9 hpd hNk hbx
                    go_wp2
                    go_ret
                    exact ⟨rfl, bl_step hB.out hb1.out⟩
                  have c1b : decide (xl ≤ (tm : Int)) = false := decide_eq_false c1
                  have c2b : decide (al < xl) = false := decide_eq_false c2
                  have c12 := hid (⟨c1, c2⟩ : ¬ xl ≤ (tm : Int) ∧ ¬ al < xl)
                  clear c1 c2
                  by_cases c3 : (8 : Int) < (rl : Int)
                  · obtain rfl := hf9.out (hpd.out.1 (.inr (.inr (.inl (by have := hrl.out; omega)))))
                    clear hmore hf9 hpd hNk hbx
                    go_wp2
                    go_ret
                    exact ⟨rfl, bl_step hB.out hb1.out⟩
                  by_cases c4 : xp < 0
                  · obtain rfl := hf9.out (hpd.out.1 (.inr (.inr (.inr (.inl c4)))))
                    clear hmore hf9 hpd hNk hbx
                    go_wp2
                    go_ret
                    exact ⟨rfl, bl_step hB.out hb1.out⟩
                  by_cases c5 : (tm : Int) < xp
                  · obtain rfl := hf9.out (hpd.out.1 (.inr (.inr (.inr (.inr (.inl c5))))))
                    clear hmore hf9 hpd hNk hbx
                    go_wp2
                    go_ret
                    exact ⟨rfl, bl_step hB.out hb1.out⟩
                  have hok := hid (fun h => hmore.out (hpd.out.2 (by have := c12.out; omega) (by have := c12.out; have := hall.out; omega) (by have := hrl.out; omega) (by omega) (by omega) h))
                  have hno := hid (fun j (hj : j < g.prods[k].right.length) h => hf9.out (hpd.out.1 (.inr (.inr (.inr (.inr (.inr ⟨j, hj, h⟩)))))))
                  clear hmore hf9 hpd
                  go_wp2
                  clear c1b c2b c12 c4 c5 x0 x1 x2 u0 u1 u2 hltz y0 y1 y2 y3 y4 hW3
                  go_loopw [11] (fun i wr => ∃ m : Nat, m ≤ rl ∧ i = .int .i64 (m : Int) ∧ Hid (∀ j (hj : j < g.prods[k].right.length), j < m → 1 ≤ g.prods[k].right[j] ∧ g.prods[k].right[j] ≤ (g.all : Int)) ∧ Hid (Below W3.heap.size W3 wr)) (fun i _ => rl - (intOf i).toNat)
                  case atStart => exact ⟨0, Nat.zero_le _, rfl, hid (fun _ _ h => absurd h (Nat.not_lt_zero _)), hid (Below.refl _ _)⟩
                  case round =>
                    obtain ⟨m, hm, rfl, hq, hbm⟩ := hrel
                    have z1 := hbx.out _ hbm.out
                    have hbz := hid (bl_step hb1.out hbm.out)
                    by_cases hlm : m < rl
                    · have hlmz : (m : Int) < (rl : Int) := by omega
                      have hml : m < g.prods[k].right.length := by rw [hrl.out]; exact hlm
                      obtain ⟨a', c', e, -, -, hat⟩ := hNk.out _ hbm.out
                      injection e with e _ _
                      subst e
                      obtain ⟨b2, o2, e2, hb2, hx2⟩ := hat m hml
                      subst e2
                      have hno9 := hid (fun h => hno.out m hml h)
                      have hq9 : Hid (1 ≤ g.prods[k].right[m] ∧ g.prods[k].right[m] ≤ (g.all : Int) → ∀ j (hj : j < g.prods[k].right.length), j < m + 1 → 1 ≤ g.prods[k].right[j] ∧ g.prods[k].right[j] ≤ (g.all : Int)) := hid (fun h j hj h9 => by
                        rcases Nat.lt_or_ge j m with h8 | h8
                        · exact hq.out j hj h8
                        · obtain rfl : j = m := by omega
                          exact h)
                      clear hat hb2 hq
                      generalize g.prods[k].right[m] = x at *
                      by_cases d1 : x < 1
                      · obtain rfl := hno9.out (.inl d1)
                        clear hq9 hno9
                        go_wp2
                        go_ret
                        exact ⟨rfl, bl_step hB.out hbz.out⟩
                      by_cases d2 : al < x
                      · obtain rfl := hno9.out (.inr (by have := hall.out; omega))
                        clear hq9 hno9
                        go_wp2
                        go_ret
                        exact ⟨rfl, bl_step hB.out hbz.out⟩
                      have hq8 := hid (hq9.out ⟨by omega, by have := hall.out; omega⟩)
                      clear hq9 hno9
                      go_wp2
                      go_roundw
                      case rel => exact ⟨m + 1, by omega, by go_num, hq8, hid (by first | exact hbm.out | exact belowN hbm.out)⟩
                      case measure => simp [intOf]; omega
                    · have hlmz : ¬ (m : Int) < (rl : Int) := by omega
                      have hq8 := hid (hok.out (fun j hj => hq.out j hj (by rw [hrl.out] at hj; omega)))
                      clear hq
                      go_wp2
                      go_roundw
                      case rel => exact ⟨k + 1, by omega, by go_num, hq8, hbz⟩
                      case measure => simp [intOf]; omega
                · have hltz : ¬ (k : Int) < (pp : Int) := by omega
                  obtain rfl := hfin.out (fun j hj => hq.out j hj (by rw [hpp.out] at hj; omega))
                  clear hq
                  go_wp2
                  go_ret
                  exact ⟨rfl, bl_step hB.out hbl.out⟩
            · have s0z : (st != 0) = true := bne_iff_ne.2 s0
              obtain rfl := f7.out n0 s0
              clear fy2 f8 f7 s0 n0
              go_wp2
              go_ret
              exact ⟨rfl, hbw.out⟩
          · have n0z : ((nn : Int) == 0) = false := by rw [beq_eq_false_iff_ne]; omega
            have n0y : (0 : Int) < (nn : Int) := by omega
            by_cases s1 : st ≤ (tm : Int)
            · obtain rfl := f8.out n0 (fun h => by have := h.1; omega)
              clear fy2 f7 f8
              go_wp2
              go_ret
              exact ⟨rfl, hbw.out⟩
            by_cases s2 : al < st
            · obtain rfl := f8.out n0 (fun h => by have := h.2; have := hall.out; omega)
              clear fy2 f7 f8
              go_wp2
              go_ret
              exact ⟨rfl, hbw.out⟩
            have hfin := hid (fun h9 => fy2.out (fun h => absurd h (by omega)) (fun _ => ⟨by have := htm.out; omega, by have := hall.out; omega⟩) h9)
            clear fy2 f7 f8
            go_wp2
            clear hltz hlt hk hbw y0 y1 y2 y3 y4 s1 s2 n0z n0y
            go_loopw [9] (fun i wr => ∃ k : Nat, k ≤ pp ∧ i = .int .i64 (k : Int) ∧ Hid (∀ j (hj : j < g.prods.length), j < k → pdB g g.prods[j] = true) ∧ Hid (Below W.heap.size W wr)) (fun i _ => pp - (intOf i).toNat)
            case atStart => exact ⟨0, Nat.zero_le _, rfl, hid (fun _ _ h => absurd h (Nat.not_lt_zero _)), hbl⟩
            case round =>
              clear hbl
              obtain ⟨k, hk, rfl, hq, hbl⟩ := hrel
              have hbw := hid (bl_step hB.out hbl.out)
              obtain ⟨y0, y1, y2, y3, y4⟩ := hk1.out wr hbl.out
              by_cases hlt : k < pp
              · have hltz : (k : Int) < (pp : Int) := by omega
                have hkl : k < g.prods.length := by rw [hpp.out]; exact hlt
                obtain ⟨b, o, q1, q3, e, x0, x1, x2, hN⟩ := hKp.out wr hbw.out k hkl
                subst e
                have hf9 := hid (fun h => hfp.out k hkl h)
                have hpd := hid (hpd0.out g.prods[k])
                have hmore : Hid (pdB g g.prods[k] = true → ∀ j (hj : j < g.prods.length), j < k + 1 → pdB g g.prods[j] = true) := hid (fun h j hj h9 => by
                  rcases Nat.lt_or_ge j k with h8 | h8
                  · exact hq.out j hj h8
                  · obtain rfl : j = k := by omega
                    exact h)
                have hal := al' wr (.cells #[.int .i64 g.prods[k].left, .slice q1 g.prods[k].right.length q3, .int .i64 g.prods[k].prec] 43)
                obtain ⟨u0, u1, u2⟩ := cells3h (heap_new wr (.cells #[.int .i64 g.prods[k].left, .slice q1 g.prods[k].right.length q3, .int .i64 g.prods[k].prec] 43))
                have hb1 := hid (bl_step hbl.out hal)
                have hbx : Hid (∀ u, Below (wr.alloc (.cells #[.int .i64 g.prods[k].left, .slice q1 g.prods[k].right.length q3, .int .i64 g.prods[k].prec] 43)).heap.size (wr.alloc (.cells #[.int .i64 g.prods[k].left, .slice q1 g.prods[k].right.length q3, .int .i64 g.prods[k].prec] 43)) u → u.cell? ⟨wr.heap.size, 1, none⟩ = some (.slice q1 g.prods[k].right.length q3)) := hid (fun u hu => keep_cell hu u1)
                have hNk := hid (fun u hu => hN.keep (w' := u) (bl_step hal hu))
                obtain ⟨W3, hW3⟩ : ∃ x, wr.alloc (.cells #[.int .i64 g.prods[k].left, .slice q1 g.prods[k].right.length q3, .int .i64 g.prods[k].prec] 43) = x := ⟨_, rfl⟩
                rw [hW3] at hb1 u0 u1 u2 hbx hNk
                clear hq hal hN
                obtain ⟨rl, hrl⟩ : ∃ n, Hid (g.prods[k].right.length = n) := ⟨_, hid rfl⟩
                rw [hrl.out] at x1 u1 hW3 hbx hNk
                generalize g.prods[k].left = xl at *
                generalize g.prods[k].prec = xp at *
                by_cases c1 : xl ≤ (tm : Int)
                · obtain rfl := hf9.out (hpd.out.1 (.inl c1))
                  clear hmore hf9 hpd hNk hbx
                  go_wp2
                  go_ret
                  exact ⟨rfl, bl_step hB.out hb1.out⟩
                by_cases c2 : al < xl
                · obtain rfl := hf9.out (hpd.out.1 (.inr (.inl (by have := hall.out; omega))))
                  clear hmore hf9 hpd hNk hbx
                  go_wp2
                  go_ret
                  exact ⟨rfl, bl_step hB.out hb1.out⟩
                have c1b : decide (xl ≤ (tm : Int)) = false := decide_eq_false c1
                have c2b : decide (al < xl) = false := decide_eq_false c2
                have c12 := hid (⟨c1, c2⟩ : ¬ xl ≤ (tm : Int) ∧ ¬ al < xl)
                clear c1 c2
                by_cases c3 : (8 : Int) < (rl : Int)
                · obtain rfl := hf9.out (hpd.out.1 (.inr (.inr (.inl (by have := hrl.out; omega)))))
                  clear hmore hf9 hpd hNk hbx
                  go_wp2
                  go_ret
                  exact ⟨rfl, bl_step hB.out hb1.out⟩
                by_cases c4 : xp < 0
                · obtain rfl := hf9.out (hpd.out.1 (.inr (.inr (.inr (.inl c4)))))
                  clear hmore hf9 hpd hNk hbx
                  go_wp2
                  go_ret
                  exact ⟨rfl, bl_step hB.out hb1.out⟩
                by_cases c5 : (tm : Int) < xp
                · obtain rfl := hf9.out (hpd.out.1 (.inr (.inr (.inr (.inr (.inl c5))))))
                  clear hmore hf9 hpd hNk hbx
                  go_wp2
                  go_ret
                  exact ⟨rfl, bl_step hB.out hb1.out⟩
                have hok := hid (fun h => hmore.out (hpd.out.2 (by have := c12.out; omega) (by have := c12.out; have := hall.out; omega) (by have := hrl.out; omega) (by omega) (by omega) h))
                have hno := hid (fun j (hj : j < g.prods[k].right.length) h => hf9.out (hpd.out.1 (.inr (.inr (.inr (.inr (.inr ⟨j, hj, h⟩)))))))
                clear hmore hf9 hpd
                go_wp2
                clear c1b c2b c12 c4 c5 x0 x1 x2 u0 u1 u2 hltz y0 y1 y2 y3 y4 hW3
                go_loopw [11] (fun i wr => ∃ m : Nat, m ≤ rl ∧ i = .int .i64 (m : Int) ∧ Hid (∀ j (hj : j < g.prods[k].right.length), j < m → 1 ≤ g.prods[k].right[j] ∧ g.prods[k].right[j] ≤ (g.all : Int)) ∧ Hid (Below W3.heap.size W3 wr)) (fun i _ => rl - (intOf i).toNat)
                case atStart => exact ⟨0, Nat.zero_le _, rfl, hid (fun _ _ h => absurd h (Nat.not_lt_zero _)), hid (Below.refl _ _)⟩
                case round =>
                  obtain ⟨m, hm, rfl, hq, hbm⟩ := hrel
                  have z1 := hbx.out _ hbm.out
                  have hbz := hid (bl_step hb1.out hbm.out)
                  by_cases hlm : m < rl
                  · have hlmz : (m : Int) < (rl : Int) := by omega
                    have hml : m < g.prods[k].right.length := by rw [hrl.out]; exact hlm
                    obtain ⟨a', c', e, -, -, hat⟩ := hNk.out _ hbm.out
                    injection e with e _ _
                    subst e
                    obtain ⟨b2, o2, e2, hb2, hx2⟩ := hat m hml
                    subst e2
                    have hno9 := hid (fun h => hno.out m hml h)
                    have hq9 : Hid (1 ≤ g.prods[k].right[m] ∧ g.prods[k].right[m] ≤ (g.all : Int) → ∀ j (hj : j < g.prods[k].right.length), j < m + 1 → 1 ≤ g.prods[k].right[j] ∧ g.prods[k].right[j] ≤ (g.all : Int)) := hid (fun h j hj h9 => by
                      rcases Nat.lt_or_ge j m with h8 | h8
                      · exact hq.out j hj h8
                      · obtain rfl : j = m := by omega
                        exact h)
                    clear hat hb2 hq
                    generalize g.prods[k].right[m] = x at *
                    by_cases d1 : x < 1
                    · obtain rfl := hno9.out (.inl d1)
                      clear hq9 hno9
                      go_wp2
                      go_ret
                      exact ⟨rfl, bl_step hB.out hbz.out⟩
                    by_cases d2 : al < x
                    · obtain rfl := hno9.out (.inr (by have := hall.out; omega))
                      clear hq9 hno9
                      go_wp2
                      go_ret
                      exact ⟨rfl, bl_step hB.out hbz.out⟩
                    have hq8 := hid (hq9.out ⟨by omega, by have := hall.out; omega⟩)
                    clear hq9 hno9
                    go_wp2
                    go_roundw
                    case rel => exact ⟨m + 1, by omega, by go_num, hq8, hid (by first | exact hbm.out | exact belowN hbm.out)⟩
                    case measure => simp [intOf]; omega
                  · have hlmz : ¬ (m : Int) < (rl : Int) := by omega
                    have hq8 := hid (hok.out (fun j hj => hq.out j hj (by rw [hrl.out] at hj; omega)))
                    clear hq
                    go_wp2
                    go_roundw
                    case rel => exact ⟨k + 1, by omega, by go_num, hq8, hbz⟩
                    case measure => simp [intOf]; omega
              · have hltz : ¬ (k : Int) < (pp : Int) := by omega
                obtain rfl := hfin.out (fun j hj => hq.out j hj (by rw [hpp.out] at hj; omega))
                clear hq
                go_wp2
                go_ret
                exact ⟨rfl, bl_step hB.out hbl.out⟩
    · have c5z : ((ll : Int) != (tm : Int) + 1) = true := bne_iff_ne.2 (by omega)
      obtain rfl := f5.out c5
      clear f5 f6 f7 f8 hfp fy1 c5
      generalize g.start = st at *
      go_enter Tryz.func12, Tryz.ntmps12
      go_wp2_with (first
        | (go_at_call 31; refine G1.out.mono ?_; clear G1; rintro e w1 ⟨rfl, hc1⟩; have hc1 := hid hc1; obtain ⟨x0, x1, x2, x3, x4⟩ := hk1.out w1 hc1.out)
        | (go_at_call 20; refine (GT1.out w1 hc1.out).mono ?_; clear GT1; rintro e w2 ⟨rfl, hc2⟩; have hc2 := hid (bl_step hc1.out hc2); obtain ⟨z0, z1, z2, z3, z4⟩ := hk1.out w2 hc2.out))
      go_ret
      exact ⟨rfl, bl_step hB.out hc2.out⟩

end Go.Proofs.YthgbjhnknepefaaGreat
namespace Go.Proofs.YthgbjhnknepefaaGreat
open Go.RowKit

end Go.Proofs.YthgbjhnknepefaaGreat
