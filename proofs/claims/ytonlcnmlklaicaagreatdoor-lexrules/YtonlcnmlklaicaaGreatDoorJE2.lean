/- LexRules: what tokens of a built automaton are; the rules' cells. LexRules' walk. -/
import Derived.Test.YtonlcnmlklaicaaGreatDoorJA5
import Derived.Test.YtonlcnmlklaicaaGreatDoorJE1
import Derived.Test.YtonlcnmlklaicaaGreatDoorJ34
import Derived.Lib.QuietBelow
import Derived.BigQuiet
namespace Go.Proofs.YtonlcnmlklaicaaGreatDoor
open Go.RowKit Go.Maps

theorem accB_do {N : List (List Int)} {A : List Int} (hr : RgtA N A) (s : Txt) : accB N A s = doA N A 0 s := by
  unfold accB
  rw [goB_yes (rgtB_of hr), goK_goA hr.rgt hr.pos s s.length (Nat.le_refl _), List.take_length]
  unfold doA
  have hl : goA N 0 s ≤ N.length := goA_le hr.rgt s 0 (by omega)
  rcases Nat.lt_or_ge (goA N 0 s) N.length with h | h
  · rw [inI_some h, if_neg (by omega), acA_some h, Int.toNat_natCast]
  · have e3 : goA N 0 s = N.length := by omega
    rw [e3, inI_none, if_pos rfl, acA_none]
/-- of some that fit the first -/
theorem first_fit {ts : List Rx} {s : Txt} : ∀ (r : Nat) (h : r < ts.length), Mat ts[r] s → ∃ r0, ∃ h0 : r0 < ts.length, r0 ≤ r ∧ Mat ts[r0] s ∧ ∀ r' (h' : r' < ts.length), r' < r0 → ¬ Mat ts[r'] s := by
  intro r
  induction r using Nat.strongRecOn with
  | _ r ih =>
    intro h hm
    by_cases hx : ∃ r', ∃ h' : r' < ts.length, r' < r ∧ Mat ts[r'] s
    · obtain ⟨r', h', hlt, hm'⟩ := hx
      obtain ⟨r0, h0, h1, h2, h3⟩ := ih r' hlt h' hm'
      exact ⟨r0, h0, by omega, h2, h3⟩
    · exact ⟨r, h, Nat.le_refl _, hm, fun r' h' hlt hm' => hx ⟨r', h', hlt, hm'⟩⟩
/-- what a built automaton does with a text -/
theorem do_rules {ts : List Rx} {all : List Sp} {n : Nat} (B : Blt ts all n) (s : Txt) : (∃ r, ∃ h : r < ts.length, doA (nxtK all n) (accK all n) 0 s = (r : Int) ∧ Mat ts[r] s ∧ ∀ r' (h' : r' < ts.length), r' < r → ¬ Mat ts[r'] s) ∨ (doA (nxtK all n) (accK all n) 0 s = -1 ∧ ∀ r (h : r < ts.length), ¬ Mat ts[r] s) := by
  rw [← accB_do B.rgt, accB_built B.ru B.to]
  by_cases hx : ∃ r, ∃ h : r < ts.length, Mat ts[r] s
  · obtain ⟨r, h, hm⟩ := hx
    obtain ⟨r0, h0, -, h2, h3⟩ := first_fit r h hm
    exact Or.inl ⟨r0, h0, accG_some B.ru B.to.fin B.to.on s h0 h2 h3, h2, h3⟩
  · have hn : ∀ r (h : r < ts.length), ¬ Mat ts[r] s := fun r h hm => hx ⟨r, h, hm⟩
    exact Or.inr ⟨accG_none B.ru B.to.fin B.to.on s hn, hn⟩
/-- a token of a text by a built automaton: its rule is the first that fits it, and no longer text is fit by any -/
theorem tok_rules {ts : List Rx} {all : List Sp} {n : Nat} (B : Blt ts all n) {T : Txt} {a m : Nat} {z : Int} (h : (lngR (nxtK all n) (accK all n) (T.drop a)).1 = (z, m)) (hm : 0 < m) : ∃ r : Nat, r < ts.length ∧ z = (r : Int) ∧ ∀ i (hi : i < ts.length) k, m ≤ k → k ≤ T.length - a → (Mat ts[i] ((T.drop a).take k) → ¬ (m < k) ∧ ¬ (i < r)) ∧ (¬ Mat ts[i] ((T.drop a).take k) → ¬ (k = m ∧ i = r)) := by
  have hs := mtK_spec (nxtK all n) (accK all n) (T.drop a) (T.drop a).length
  rw [← lngR_is, h] at hs
  obtain ⟨h1, h2⟩ := hs
  dsimp only at h1 h2
  rcases h2 with ⟨h2, -⟩ | ⟨-, h2, h3⟩
  · omega
  · rcases do_rules B ((T.drop a).take m) with ⟨r, hr, e, hmr, hf⟩ | ⟨e, -⟩
    · refine ⟨r, hr, by rw [← h2, e], fun i hi k hk hkl => ⟨fun hM => ⟨fun hlt => ?_, fun hlt => ?_⟩, fun hM he => ?_⟩⟩
      · rcases do_rules B ((T.drop a).take k) with ⟨r', hr', e', -, -⟩ | ⟨-, hno⟩
        · have := h1 k hlt (by rw [List.length_drop]; exact hkl)
          rw [e'] at this
          omega
        · exact hno i hi hM
      · rcases Nat.eq_or_lt_of_le hk with rfl | hlt2
        · exact hf i hi hlt hM
        · rcases do_rules B ((T.drop a).take k) with ⟨r', hr', e', -, -⟩ | ⟨-, hno⟩
          · have := h1 k hlt2 (by rw [List.length_drop]; exact hkl)
            rw [e'] at this
            omega
          · exact hno i hi hM
      · obtain ⟨rfl, rfl⟩ := he
        exact hM hmr
    · exfalso
      rw [e] at h2
      exact h3 h2.symm
theorem ChnT.step {N : List (List Int)} {A : List Int} {T : Txt} {e a k : Nat} {l : List Tk} (h : ChnT N A T a (l.drop k) e) (hk : k < l.length) : (l.getD k (0, 0, 0)).2.1 = a ∧ a < T.length ∧ 0 < (l.getD k (0, 0, 0)).2.2 ∧ (lngR N A (T.drop a)).1 = ((l.getD k (0, 0, 0)).1, (l.getD k (0, 0, 0)).2.2) ∧ ChnT N A T (a + (l.getD k (0, 0, 0)).2.2) (l.drop (k + 1)) e := by
  rw [List.drop_eq_getElem_cons hk] at h
  rw [List.getD_eq_getElem?_getD, List.getElem?_eq_getElem hk]
  exact h
/-- the cells of the first k rules -/
def sumC (L : List (List Cel)) : Nat → Nat
  | 0 => 0
  | k + 1 => sumC L k + (L.getD k []).length
set_option maxRecDepth 20000 in
/-- Build of more rules than may be -/
theorem buildMany (v : Value) (L : List (List Cel)) (w : World) (hA : Celss w v L) (hn : 16 < L.length) (hn2 : L.length ≤ 9223372036854775807) :
    Calls Tryz.prog 17 #[v] w fun z w' => z = .returned (.tuple #[.agg #[.slice none 0 0, .slice none 0 0], .int .i64 1]) ∧ Below w.heap.size w w' := by
  obtain ⟨va, vc, rfl⟩ : ∃ a c, v = .slice a L.length c := by obtain ⟨a, c, e, _⟩ := hA; exact ⟨a, c, e⟩
  exact buildNo _ w (fun u _ => placesMany va L.length vc u hn hn2)
set_option maxRecDepth 20000 in
/-- Build's answer is one alone: there is an automaton, or there is none -/
theorem buildWays (v : Value) (ts : List Rx) (hn : ts.length ≤ 16) (hok : ∀ t ∈ ts, t.ok ∧ (post t).length ≤ 60) :
    (∃ all n, Blt ts all n ∧ ∀ w, Celss w v (ts.map post) → Tab w → Calls Tryz.prog 17 #[v] w fun z w' => ∃ na aa nc ac, z = .returned (.tuple #[.agg #[.slice na (nxtK all n).length nc, .slice aa (accK all n).length ac], .int .i64 0]) ∧ Dfa w' (.slice na (nxtK all n).length nc) (.slice aa (accK all n).length ac) (nxtK all n) (accK all n) ∧ Below w.heap.size w w') ∨
    (∀ w, Celss w v (ts.map post) → Tab w → Calls Tryz.prog 17 #[v] w fun z w' => z = .returned (.tuple #[.agg #[.slice none 0 0, .slice none 0 0], .int .i64 3]) ∧ Below w.heap.size w w') := by
  by_cases hx : ∃ all n, SpAll ts all ∧ BldTo all n
  · obtain ⟨all, n, hS, hT⟩ := hx
    have R := hS.ru (fun t ht => (hok t ht).2)
    refine Or.inl ⟨all, n, ⟨hS, R, hT, rgtA_built R hT⟩, fun w hA hTb => (buildGood v ts w hA hn hok hTb).mono ?_⟩
    rintro z w' ⟨nv, av, er, rfl, ⟨all', hS', h⟩, hb⟩
    have e := hS'.uniq hS
    subst e
    rcases h with ⟨h1, n', h2, h3, h4⟩ | ⟨_, _, _, h2⟩
    · have e := h2.uniq hT
      subst e
      subst h1
      obtain ⟨⟨na, nc, rfl⟩, ⟨aa, ac, rfl⟩⟩ := (Dfa.mk h3 h4).shape
      exact ⟨na, aa, nc, ac, rfl, ⟨h3, h4⟩, hb⟩
    · exact absurd h2 hT.not_full
  · refine Or.inr fun w hA hTb => (buildGood v ts w hA hn hok hTb).mono ?_
    rintro z w' ⟨nv, av, er, rfl, ⟨all', hS', h⟩, hb⟩
    rcases h with ⟨_, n', h2, _⟩ | ⟨rfl, rfl, rfl, _⟩
    · exact absurd ⟨all', n', hS', h2⟩ hx
    · exact ⟨rfl, hb⟩
end Go.Proofs.YtonlcnmlklaicaaGreatDoor
namespace Go.Proofs.YtonlcnmlklaicaaGreatDoor
open Go.RowKit Go.Maps Go.Sort

/-- does a rule fit a text? -/
noncomputable def fitV (t : Rx) (s : Txt) : Bool := @decide (Mat t s) (Classical.propDecidable _)
theorem fitV_iff (t : Rx) (s : Txt) : fitV t s = true ↔ Mat t s := @decide_eq_true_iff _ (Classical.propDecidable _)
set_option maxRecDepth 20000 in
theorem fitsV (t : Rx) (v : Value) (s : Txt) (w : World) (hA : Cels w v (post t)) (hl : (post t).length ≤ 60) (hs : s.length ≤ 1000) :
    Calls Tryz.prog 18 #[v, .string (strT s)] w fun e w' => e = .returned (.bool (fitV t s)) ∧ Below w.heap.size w w' := by
  refine (fitsC t v s w hA hl hs).mono ?_
  rintro e w' ⟨r, rfl, hr, hb⟩
  refine ⟨?_, hb⟩
  have : r = fitV t s := by
    rw [Bool.eq_iff_iff, hr, fitV_iff]
  rw [this]
theorem celss_at {w : World} {a : Option Addr} {n c : Nat} {L : List (List Cel)} (h : Celss w (.slice a n c) L) {j : Nat} (hj : j < L.length) : ∃ b o xa xc, a = some ⟨b, o, none⟩ ∧ w.cell? ⟨b, o + j, none⟩ = some (.slice xa (L.getD j []).length xc) ∧ Cels w (.slice xa (L.getD j []).length xc) (L.getD j []) := by
  obtain ⟨a', c', e, _, _, hat⟩ := h
  injection e with e1 _ _
  subst e1
  obtain ⟨b, o, x, e2, _, h1, h2⟩ := hat j hj
  have e3 : L.getD j [] = L[j] := by rw [List.getD_eq_getElem?_getD, List.getElem?_eq_getElem hj]; rfl
  rw [e3]
  obtain ⟨xa, xc, rfl⟩ := h2.shape
  exact ⟨b, o, xa, xc, e2, h1, h2⟩

set_option maxRecDepth 20000 in
set_option maxHeartbeats 16000000 in
theorem lexRulesWalk (v : Value) (L : List (List Cel)) (s : Txt) (w : World) (hl : L.length * 24 ≤ 140737488351232) (hsl : s.length ≤ 140737488351232) (hA : Celss w v L) (hT : Tab w) :
    Calls Tryz.prog 5 #[v, .string (strT s)] w fun e w' => e = .returned (.bool true) ∧ Below w.heap.size w w' := by
  have GW := hid (wakes10 w hT)
  obtain ⟨va, vc, rfl⟩ : ∃ a c, v = .slice a L.length c := by obtain ⟨a, c, e, _⟩ := hA; exact ⟨a, c, e⟩
  have hsz := strT_size s
  have hAH := hid hA
  have hTH := hid hT
  obtain ⟨nL, hnL⟩ : ∃ n, Hid (L.length = n) := ⟨_, hid rfl⟩
  rw [hnL.out] at hl hAH ⊢
  clear hA hT
  go_enter Tryz.func5, Tryz.ntmps5
  go_wp2_with (go_at_call 7; refine GW.out.mono ?_; clear GW; rintro e w1 ⟨rfl, hc1⟩; have hc1 := hid hc1)
  go_loopw [5, 21] (fun x i wr => ∃ k : Nat, k ≤ nL ∧ i = .int .i64 (k : Int) ∧ x = .int .i64 (sumC L k : Int) ∧ sumC L k ≤ 40 ∧ Hid (∀ j, j < k → rightB (L.getD j []) = true) ∧ wr = w1) (fun _ i _ => nL - (intOf i).toNat)
  case atStart => exact ⟨0, Nat.zero_le _, rfl, rfl, Nat.zero_le _, hid (fun j hj => absurd hj (Nat.not_lt_zero _)), rfl⟩
  case round =>
    obtain ⟨k, hk, rfl, rfl, hsum, hrt, rfl⟩ := hrel
    by_cases hlt : k < nL
    · have hltz : (k : Int) < (nL : Int) := by omega
      obtain ⟨b, o, xa, xc, hab, hcx, hcs⟩ := celss_at (hAH.out.keep hc1.out) (j := k) (by rw [hnL.out]; exact hlt)
      have GR := hid (rightC _ _ wr hcs)
      cases hrb : rightB (L.getD k []) with
      | false =>
        rw [hrb] at GR
        subst hab
        clear hrb hcs
        generalize (L.getD k []).length = lk at *
        go_wp2_with (go_at_call 16; refine GR.out.mono ?_; rintro e w2 ⟨rfl, hc2⟩; subst w2)
        go_ret
        exact ⟨rfl, hc1.out⟩
      | true =>
        rw [hrb] at GR
        obtain ⟨t9, -, h92, h93⟩ := right_tree hrb
        have hlk : (L.getD k []).length ≤ 60 := by omega
        have hrt1 : Hid (∀ j, j < k + 1 → rightB (L.getD j []) = true) := hid (fun j hj => by
          rcases Nat.lt_or_ge j k with h9 | h9
          · exact hrt.out j h9
          · obtain rfl : j = k := by omega
            exact hrb)
        have hsS : sumC L (k + 1) = sumC L k + (L.getD k []).length := rfl
        subst hab
        clear hrb hcs h92 h93
        obtain ⟨S', hS'⟩ : ∃ x, Hid (sumC L (k + 1) = x) := ⟨_, hid rfl⟩
        rw [hS'.out] at hsS
        generalize (L.getD k []).length = lk at *
        generalize sumC L k = S at *
        have hsz2 : (S : Int) + (lk : Int) = (S' : Int) := by omega
        clear hsS
        by_cases h40 : S' ≤ 40
        · have h40z : ¬ (40 : Int) < (S' : Int) := by omega
          go_wp2_with (go_at_call 16; refine GR.out.mono ?_; rintro e w2 ⟨rfl, hc2⟩; subst w2)
          go_roundw
          case rel => exact ⟨k + 1, by omega, by go_num, by rw [hS'.out], by rw [hS'.out]; exact h40, hrt1, by first | rfl | trivial⟩
          case measure => simp [intOf]; omega
        · have h40z : (40 : Int) < (S' : Int) := by omega
          go_wp2_with (go_at_call 16; refine GR.out.mono ?_; rintro e w2 ⟨rfl, hc2⟩; subst w2)
          go_ret
          exact ⟨rfl, hc1.out⟩
    · have hltz : ¬ (k : Int) < (nL : Int) := by omega
      have hkn : nL = k := by omega
      subst hkn
      have hall : L.all rightB = true := by
        rw [List.all_eq_true]
        intro x hx
        obtain ⟨j, hj, rfl⟩ := List.getElem_of_mem hx
        have h9 := hrt.out j (by rw [← hnL.out]; exact hj)
        have e3 : L.getD j [] = L[j] := by rw [List.getD_eq_getElem?_getD, List.getElem?_eq_getElem hj]; rfl
        rw [e3] at h9
        exact h9
      obtain ⟨ts, hts, hok⟩ := trees_of hall
      have hA1 := hid (hAH.out.keep hc1.out)
      have hok := hid hok
      clear hall hrt hsum
      by_cases h16 : 16 < nL
      · have GB := hid (buildMany _ L wr hA1.out (by rw [hnL.out]; exact h16) (by rw [hnL.out]; omega))
        clear hts
        go_wp2_with (go_at_call 17; refine GB.out.mono ?_; clear GB; rintro e w3 ⟨rfl, hc3⟩; have hc3 := hid (bl_step hc1.out (bl_step hc3 (al' w3 (.cells #[.slice none 0 0, .slice none 0 0] 25)))))
        go_ret
        exact ⟨rfl, hc3.out⟩
      subst hts
      have hnt : Hid (ts.length = nL) := hid (by rw [← hnL.out, List.length_map])
      have hAu := hid (fun u (hu : Below wr.heap.size wr u) => hA1.out.keep hu)
      rcases buildWays (.slice va nL vc) ts (by rw [hnt.out]; omega) hok.out with ⟨all, n, B, GB⟩ | GB
      case inr =>
        have GB := hid (GB wr hA1.out (hTH.out.keep hc1.out))
        go_wp2_with (go_at_call 17; refine GB.out.mono ?_; clear GB; rintro e w3 ⟨rfl, hc3⟩; have hc3 := hid (bl_step hc1.out (bl_step hc3 (al' w3 (.cells #[.slice none 0 0, .slice none 0 0] 25)))))
        go_ret
        exact ⟨rfl, hc3.out⟩
      have GB := hid (GB wr hA1.out (hTH.out.keep hc1.out))
      have B := hid B
      have hNa := hid B.out.rgt
      have hch := hid (cutA_chn (nxtK all n) (accK all n) s)
      have htok := hid (fun (a m : Nat) (z : Int) => tok_rules B.out (T := s) (a := a) (m := m) (z := z))
      have hBl := B.out.rgt.few
      have GA := hid (fun nv av u (hD : Dfa u nv av (nxtK all n) (accK all n)) (h60 : s.length ≤ 60) => lexAllC nv av (nxtK all n) (accK all n) s u hD (by omega) (by omega))
      rw [lexCutB_good (rgtB_of B.out.rgt)] at GA
      clear B
      generalize nxtK all n = N at *
      generalize accK all n = A at *
      by_cases h60 : 60 < s.length
      · have h60z : (60 : Int) < (s.length : Int) := by omega
        clear GA hch htok
        generalize N.length = nN at *
        generalize A.length = nA at *
        go_wp2_with (go_at_call 17; refine GB.out.mono ?_; clear GB; rintro e w3 ⟨na, aa, nc, ac, rfl, hD3, hc3⟩; have hc3 := hid (bl_step hc1.out (bl_step hc3 (al' w3 (.cells #[.slice na nN nc, .slice aa nA ac] 25)))))
        go_ret
        exact ⟨rfl, hc3.out⟩
      have h60z : ¬ (60 : Int) < (s.length : Int) := by omega
      obtain ⟨e, hele, hchn, -, hat⟩ := hch.out
      have hchn := hid hchn
      generalize cutA N A s = R at *
      obtain ⟨l, sn, at'⟩ := R
      dsimp only at hchn hat GA
      clear hch
      have GA := hid (fun nv av u (hD : Dfa u nv av N A) => GA.out nv av u hD (by omega))
      obtain ⟨Ln, hLn⟩ : ∃ x, Hid (l.length = x) := ⟨_, hid rfl⟩
      have hlm := hid (fun a => lngR_len N A (s.drop a))
      have hLb : Ln ≤ 60 := by have := chnT_len hchn.out; rw [hLn.out] at this; omega
      go_wp2_with (first
        | (go_at_call 17; refine GB.out.mono ?_; clear GB; rintro e w3 ⟨na, aa, nc, ac, rfl, hD3, hc3⟩; have hal3 := al' w3 (.cells #[.slice na N.length nc, .slice aa A.length ac] 25); have hc3 := hid (bl_step hc3 hal3); obtain ⟨x0, x1, -⟩ := cells2m (heap_new w3 (.cells #[.slice na N.length nc, .slice aa A.length ac] 25)); have hD3 := hid (hD3.keep hal3))
        | (go_at_call 11; refine (GA.out _ _ _ hD3.out).mono ?_; clear GA; rintro e w4 ⟨tv, rfl, hO4, hc4⟩; have hsh := own_shape hO4; rw [hLn.out] at hsh; obtain ⟨ta, tc, rfl⟩ := hsh; have hO4 := hid hO4; have hc4 := hid (bl_step hc3.out hc4)))
      clear x0 x1 hD3 hc3
      go_loopw [11, 62] (fun x i wr => ∃ (j p : Nat), j ≤ Ln ∧ p ≤ s.length ∧ i = .int .i64 (j : Int) ∧ x = .int .i64 (p : Int) ∧ Hid (ChnT N A s p (l.drop j) e) ∧ Hid (Below w4.heap.size w4 wr)) (fun _ i _ => Ln - (intOf i).toNat)
      case atStart => exact ⟨0, 0, by omega, by omega, rfl, rfl, hchn, hid (Below.refl _ _)⟩
      case round =>
        obtain ⟨j, p, hj, hp, rfl, rfl, hC, hw⟩ := hrel
        by_cases hjt : j < Ln
        · have hjtz : (j : Int) < (Ln : Int) := by omega
          obtain ⟨g, c1, he, x0, x1, x2⟩ := own_tok (own_below hO4.out hw.out) (k := j) (by rw [hLn.out]; exact hjt)
          rw [hLn.out] at he
          injection he with he _ hc
          subst he hc
          obtain ⟨s1, s2, s3, s4, s5⟩ := hC.out.step (k := j) (by rw [hLn.out]; exact hjt)
          have s5 := hid s5
          generalize l.getD j (0, 0, 0) = t at *
          obtain ⟨t0, t1, m⟩ := t
          dsimp only at x0 x1 x2 s1 s2 s3 s4 s5
          subst s1
          have hml := hlm.out t1
          rw [s4, List.length_drop] at hml
          dsimp only at hml
          obtain ⟨r, hr, rfl, hfit⟩ := htok.out t1 m t0 s4 s3
          have hfit := hid hfit
          rw [hnt.out] at hr
          clear s4
          obtain ⟨E, hE⟩ : ∃ E : Nat, t1 + m = E := ⟨_, rfl⟩
          have hEz : (t1 : Int) + (m : Int) = (E : Int) := by omega
          obtain ⟨WK, hWK⟩ : ∃ x, wr.alloc (.cells #[.int .i64 (r : Int), .int .i64 (t1 : Int), .int .i64 (m : Int)] 28) = x := ⟨_, rfl⟩
          have hkK : Hid (WK.heap[wr.heap.size]? = some (.cells #[.int .i64 (r : Int), .int .i64 (t1 : Int), .int .i64 (m : Int)] 28)) := by rw [← hWK]; exact hid (heap_new wr _)
          have hbK : Hid (Below w4.heap.size w4 WK) := by rw [← hWK]; exact hid (bl_step hw.out (al' wr _))
          obtain ⟨⟨y0, -⟩, ⟨y1, -⟩, ⟨y2, -⟩⟩ := cells3m hkK.out
          have q1 : ¬ (m : Int) < 1 := by omega
          have q2 : ¬ (s.length : Int) - (t1 : Int) < (m : Int) := by omega
          have q3 : ¬ (r : Int) < 0 := by omega
          have q4 : ¬ (nL : Int) ≤ (r : Int) := by omega
          rw [hE] at s5
          go_wp2_with fail
          clear hWK x0 x1 x2 y0 y1 y2
          generalize wr.heap.size = pb at *
          go_loopw [102] (fun x wr => ∃ i : Nat, i ≤ nL ∧ x = .int .i64 (i : Int) ∧ Hid (Below WK.heap.size WK wr)) (fun x _ => nL - (intOf x).toNat)
          case atStart => exact ⟨0, by omega, rfl, hid (Below.refl _ _)⟩
          case round =>
            obtain ⟨i, hi, rfl, hwi⟩ := hrel
            by_cases hit : i < nL
            · have hitz : (i : Int) < (nL : Int) := by omega
              obtain ⟨⟨y0, -⟩, ⟨y1, -⟩, ⟨y2, -⟩⟩ := cells3m (hs_keep hkK.out hwi.out)
              go_wp2_with fail
              clear y0 y1 y2
              go_loopw [15] (fun x wr => ∃ k : Nat, E ≤ k ∧ k ≤ s.length + 1 ∧ x = .int .i64 (k : Int) ∧ Hid (Below WK.heap.size WK wr)) (fun x _ => s.length + 1 - (intOf x).toNat)
              case atStart => exact ⟨E, by omega, by omega, rfl, hwi⟩
              case round =>
                obtain ⟨k, hk1, hk2, rfl, hwk⟩ := hrel
                by_cases hkt : k ≤ s.length
                · have hktz : (k : Int) ≤ (s.length : Int) := by omega
                  obtain ⟨b, o, xa, xc, hab, hcx, hcs⟩ := celss_at (hAu.out wr (bl_step hc4.out (bl_step hbK.out hwk.out))) (j := i) (by rw [List.length_map, hnt.out]; exact hit)
                  have hpo : (ts.map post).getD i [] = post (ts[i]'(by rw [hnt.out]; exact hit)) := by rw [List.getD_eq_getElem?_getD, List.getElem?_eq_getElem (by rw [List.length_map, hnt.out]; exact hit), List.getElem_map]; rfl
                  rw [hpo] at hcx hcs
                  have hfi := hid (hfit.out i (by rw [hnt.out]; exact hit) (k - t1) (by omega) (by omega))
                  have hokt := (hok.out (ts[i]'(by rw [hnt.out]; exact hit)) (List.getElem_mem _)).2
                  generalize ts[i]'(by rw [hnt.out]; exact hit) = ti at hcx hcs hfi hokt hpo
                  have hex := strT_ext s t1 (k - t1)
                  rw [show t1 + (k - t1) = k by omega] at hex
                  have hfb := hid (fitV_iff ti ((s.drop t1).take (k - t1)))
                  have GF := hid (fun u (hu : Below wr.heap.size wr u) => fitsV ti (.slice xa (post ti).length xc) ((s.drop t1).take (k - t1)) u (hcs.keep hu) hokt (by rw [List.length_take, List.length_drop]; omega))
                  generalize strT ((s.drop t1).take (k - t1)) = U at *
                  obtain ⟨f, hf⟩ : ∃ f, fitV ti ((s.drop t1).take (k - t1)) = f := ⟨_, rfl⟩
                  rw [hf] at GF hfb
                  have hcf : Hid ((f = true → k = E ∧ ¬ i < r) ∧ (f = false → ¬ (k = E ∧ i = r))) := hid (by
                    refine ⟨fun h9 => ?_, fun h9 h8 => ?_⟩
                    · have := hfi.out.1 (hfb.out.1 h9)
                      exact ⟨by omega, this.2⟩
                    · refine hfi.out.2 (fun h7 => ?_) ⟨by omega, h8.2⟩
                      have := hfb.out.2 h7
                      rw [h9] at this
                      cases this)
                  clear hfi hfb hf hpo hokt hcs
                  generalize (post ti).length = lp at *
                  have cF : Hid (∀ d os, Calls Tryz.prog 18 #[.slice xa lp xc, .string U] (grow (redrawn wr d) os) fun e w'' => e = .returned (.bool f) ∧ ∃ q : Regrown, w'' = grow (redrawn wr q.d) q.os) := hid (fun d os => Calls.regrown_of (GF.out _ (below_regrown wr d os)))
                  have hkw := hid (hs_keep hkK.out hwk.out)
                  obtain ⟨⟨y0, -⟩, ⟨y1, -⟩, ⟨y2, -⟩⟩ := cells3m hkw.out
                  subst hab
                  have k0 := cell_regrown hcx
                  have k1 := cell_regrown y1
                  have hkz : (t1 : Int) ≤ (k : Int) := by omega
                  have hks : k ≤ (strT s).size := by omega
                  have hk1s : t1 ≤ k := by omega
                  clear GF
                  go_wp2_with fail
                  refine wp_region_quiet_below (by kernel_rfl) (by kernel_rfl) ?_
                  repeat (first | go_big_quiet_step (exact cF.out _ _) | quiet_step (exact cF.out _ _))
                  refine wpQuiet_nil ?_
                  intro _ hw'
                  obtain ⟨⟨dq, osq⟩, hw''⟩ := hw'
                  subst hw''
                  have hU := hid (below_regrown wr dq osq)
                  have hwV := hid (bl_step hwk.out hU.out)
                  have hkV := hid (hs_keep hkw.out hU.out)
                  clear k0 k1 y0 y1 y2 cF hcx hex hU hkw
                  generalize grow (redrawn wr dq) osq = V at hwV hkV ⊢
                  obtain ⟨⟨y0, -⟩, ⟨y1, -⟩, ⟨y2, -⟩⟩ := cells3m hkV.out
                  cases f with
                  | true =>
                    obtain ⟨h8, h9⟩ := hcf.out.1 rfl
                    subst h8
                    have h9z : ¬ (i : Int) < (r : Int) := by omega
                    clear hcf
                    go_wp2
                    go_roundw
                    case rel => exact ⟨k + 1, by omega, by omega, by go_num, hwV⟩
                    case measure => simp [intOf]; omega
                  | false =>
                    have h8 := hcf.out.2 rfl
                    clear hcf
                    by_cases hkE : k = E
                    · subst hkE
                      have hir : ¬ i = r := fun h => h8 ⟨rfl, h⟩
                      have hirz : ((i : Int) == (r : Int)) = false := by rw [beq_eq_false_iff_ne]; omega
                      clear h8
                      go_wp2
                      go_roundw
                      case rel => exact ⟨k + 1, by omega, by omega, by go_num, hwV⟩
                      case measure => simp [intOf]; omega
                    · have hkEz : ((k : Int) == (E : Int)) = false := by rw [beq_eq_false_iff_ne]; omega
                      clear h8
                      go_wp2
                      go_roundw
                      case rel => exact ⟨k + 1, by omega, by omega, by go_num, hwV⟩
                      case measure => simp [intOf]; omega
                · have hktz : ¬ (k : Int) ≤ (s.length : Int) := by omega
                  go_wp2
                  go_roundw
                  case rel => exact ⟨i + 1, by omega, by go_num, hwk⟩
                  case measure => simp [intOf]; omega
            · have hitz : ¬ (i : Int) < (nL : Int) := by omega
              go_wp2
              go_roundw
              case rel => exact ⟨j + 1, E, by omega, by omega, by go_num, rfl, s5, hid (bl_step hbK.out hwi.out)⟩
              case measure => simp [intOf]; omega
        · have hjtz : ¬ (j : Int) < (Ln : Int) := by omega
          have hjL : Ln = j := by omega
          subst hjL
          have hpe : p = e := by
            have h9 := hC.out
            rw [List.drop_eq_nil_of_le (by rw [hLn.out]; exact Nat.le_refl _)] at h9
            exact h9
          subst hpe
          have hbf := hid (bl_step (bl_step hc1.out hc4.out) hw.out)
          rcases hat with ⟨rfl, hpl⟩ | ⟨rfl, hpl, -⟩
          · subst hpl
            go_wp2
            go_ret
            exact ⟨by simp, hbf.out⟩
          · have hpn : ((p : Int) == -1) = false := by rw [beq_eq_false_iff_ne]; omega
            have hpz : (p : Int) < (s.length : Int) := by omega
            go_wp2
            go_ret
            exact ⟨by simp, hbf.out⟩

end Go.Proofs.YtonlcnmlklaicaaGreatDoor
