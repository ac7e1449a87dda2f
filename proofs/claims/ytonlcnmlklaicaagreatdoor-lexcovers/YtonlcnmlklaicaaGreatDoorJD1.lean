/- LexCovers' walk. -/
import Derived.Test.YtonlcnmlklaicaaGreatDoorJ34
import Derived.Test.YtonlcnmlklaicaaGreatDoorJA5
import Derived.Deep.RegionHeld3
import Derived.BigRegion
namespace Go.Proofs.YtonlcnmlklaicaaGreatDoor
open Go.RowKit Go.Maps

/-- tokens one behind the other, without a gap, from a place to another -/
def Cov (n : Nat) : Nat → List Tk → Nat → Prop
  | a, [], e => a = e
  | a, t :: l, e => t.2.1 = a ∧ 0 < t.2.2 ∧ a + t.2.2 ≤ n ∧ Cov n (a + t.2.2) l e
theorem chn_cov {N : List (List Int)} {A : List Int} {T : Txt} {e : Nat} : ∀ {l : List Tk} {a : Nat}, ChnT N A T a l e → Cov T.length a l e
  | [], _, h => h
  | t :: l, a, h => by
    obtain ⟨h1, h2, h3, h4, h5⟩ := h
    refine ⟨h1, h3, ?_, chn_cov h5⟩
    have := lngR_len N A (T.drop a)
    rw [h4, List.length_drop] at this
    have this : t.2.2 ≤ T.length - a := this
    omega
theorem Cov.le {n e : Nat} : ∀ {l : List Tk} {a : Nat}, Cov n a l e → a ≤ e
  | [], a, h => by have h : a = e := h; omega
  | t :: l, a, h => by have := Cov.le h.2.2.2; omega
theorem Cov.fin {n e : Nat} : ∀ {l : List Tk} {a : Nat}, Cov n a l e → a ≤ n → e ≤ n
  | [], a, h, ha => by have h : a = e := h; omega
  | t :: l, a, h, _ => Cov.fin h.2.2.2 h.2.2.1
theorem Cov.step {n e a k : Nat} {l : List Tk} (h : Cov n a (l.drop k) e) (hk : k < l.length) : (l.getD k (0, 0, 0)).2.1 = a ∧ 0 < (l.getD k (0, 0, 0)).2.2 ∧ a + (l.getD k (0, 0, 0)).2.2 ≤ n ∧ Cov n (a + (l.getD k (0, 0, 0)).2.2) (l.drop (k + 1)) e := by
  rw [List.drop_eq_getElem_cons hk] at h
  rw [List.getD_eq_getElem?_getD, List.getElem?_eq_getElem hk]
  exact h
theorem Cov.after {n e a : Nat} : ∀ {l : List Tk} {k : Nat}, Cov n a l e → k < l.length → a ≤ (l.getD k (0, 0, 0)).2.1 ∧ (l.getD k (0, 0, 0)).2.1 ≤ n := by
  intro l
  induction l generalizing a with
  | nil => intro k _ hk; exact absurd hk (Nat.not_lt_zero _)
  | cons t l ih =>
    intro k h hk
    obtain ⟨h1, h2, h3, h4⟩ := h
    cases k with
    | zero => exact ⟨by show a ≤ t.2.1; omega, by show t.2.1 ≤ n; omega⟩
    | succ k =>
      have := ih h4 (k := k) (by simpa using hk)
      exact ⟨by show a ≤ (l.getD k (0, 0, 0)).2.1; omega, this.2⟩
theorem Cov.mono {n e a : Nat} : ∀ {l : List Tk} {j k : Nat}, Cov n a l e → j ≤ k → k < l.length → (l.getD j (0, 0, 0)).2.1 ≤ (l.getD k (0, 0, 0)).2.1 := by
  intro l
  induction l generalizing a with
  | nil => intro j k _ _ hk; exact absurd hk (Nat.not_lt_zero _)
  | cons t l ih =>
    intro j k h hj hk
    cases j with
    | zero => exact Nat.le_trans (Nat.le_of_eq (show t.2.1 = a from h.1)) (h.after hk).1
    | succ j =>
      cases k with
      | zero => omega
      | succ k => exact ih h.2.2.2 (j := j) (k := k) (by omega) (by simpa using hk)
/-- what is known of the tokens by any automaton -/
theorem cutB_cov (N : List (List Int)) (A : List Int) (T : Txt) : ∃ e, Cov T.length 0 (lexCutB N A T).1 e ∧ ((lexCutB N A T).2.2 = -1 ∧ e = T.length ∨ (lexCutB N A T).2.2 = (e : Int)) := by
  cases h : rgtB N A with
  | false => rw [lexCutB_bad h]; exact ⟨0, rfl, Or.inr rfl⟩
  | true =>
    rw [lexCutB_good h]
    obtain ⟨e, -, h1, -, h2⟩ := cutA_chn N A T
    refine ⟨e, chn_cov h1, ?_⟩
    rcases h2 with h2 | ⟨h2, -⟩
    · exact Or.inl h2
    · exact Or.inr h2
theorem cutB_rest {N : List (List Int)} {A : List Int} {T : Txt} {n : Nat} (hn : n < (lexCutB N A T).1.length) : (lexCutB N A (T.drop ((lexCutB N A T).1.getD n (0, 0, 0)).2.1)).1 = ((lexCutB N A T).1.drop n).map fun t => (t.1, t.2.1 - ((lexCutB N A T).1.getD n (0, 0, 0)).2.1, t.2.2) := by
  cases h : rgtB N A with
  | false => rw [lexCutB_bad h] at hn; exact absurd hn (Nat.not_lt_zero _)
  | true =>
    rw [lexCutB_good h] at hn ⊢
    rw [lexCutB_good h]
    exact cutA_rest hn
theorem strT_from (s : Txt) (a : Nat) (h : a ≤ s.length) : (strT s).extract a s.length = strT (s.drop a) := by
  have h1 := strT_ext s a (s.length - a)
  rw [show a + (s.length - a) = s.length by omega, List.take_of_length_le (by rw [List.length_drop]; omega)] at h1
  exact h1

set_option maxRecDepth 20000 in
set_option maxHeartbeats 16000000 in
theorem lexCoversWalk (nv av : Value) (N : List (List Int)) (A : List Int) (s : Txt) (k : Int) (w : World) (hNl : N.length ≤ 9223372036854775807) (hsl : s.length ≤ 140737488351232) (hk0 : 0 ≤ k) (hk1 : k ≤ 255) (hD : Dfa w nv av N A) (hT : Tab w) :
    Calls Tryz.prog 6 #[.agg #[nv, av], .string (strT s), .int .u8 k] w fun e w' => e = .returned (.bool true) ∧ Below w.heap.size w w' := by
  obtain ⟨⟨na, nc, rfl⟩, ⟨aa, ac, rfl⟩⟩ := hD.shape
  obtain ⟨W0, hW0⟩ : ∃ W0, w.alloc (.cells #[.slice na N.length nc, .slice aa A.length ac] 25) = W0 := ⟨_, rfl⟩
  have hb0 : Hid (Below w.heap.size w W0) := by rw [← hW0]; exact hid (al' w _)
  have hz0 : Hid (W0.heap[w.heap.size]? = some (.cells #[.slice na N.length nc, .slice aa A.length ac] 25)) := by rw [← hW0]; exact hid (heap_new w _)
  have hD0 := hid (hD.keep hb0.out)
  have hbx : Hid (∀ u, Below W0.heap.size W0 u → u.cell? ⟨w.heap.size, 0, none⟩ = some (.slice na N.length nc) ∧ u.cell? ⟨w.heap.size, 1, none⟩ = some (.slice aa A.length ac)) := hid (fun u hu => by
    obtain ⟨d0, d1, -⟩ := cells2m (hs_keep hz0.out hu)
    exact ⟨d0, d1⟩)
  have GW := hid (wakes10 W0 (hT.keep hb0.out))
  have hend : Hid (∀ u, Below W0.heap.size W0 u → Below w.heap.size w u) := hid (fun u hu => bl_step hb0.out hu)
  have hsz := strT_size s
  clear hD hT
  by_cases h1 : 200 < s.length
  · have h1z : (200 : Int) < (s.length : Int) := by omega
    clear hz0 hD0
    go_enter Tryz.func6, Tryz.ntmps6
    go_wp2_with (go_at_call 7; refine GW.out.mono ?_; clear GW; rintro e w1 ⟨rfl, hc1⟩; have hc1 := hid hc1)
    go_ret
    exact ⟨rfl, hend.out _ hc1.out⟩
  have h1z : ¬ (200 : Int) < (s.length : Int) := by omega
  by_cases h2 : 300 < N.length
  · have h2z : (300 : Int) < (N.length : Int) := by omega
    clear hz0 hD0
    go_enter Tryz.func6, Tryz.ntmps6
    go_wp2_with (go_at_call 7; refine GW.out.mono ?_; clear GW; rintro e w1 ⟨rfl, hc1⟩; have hc1 := hid hc1; obtain ⟨c0, c1⟩ := hbx.out w1 hc1.out)
    go_ret
    exact ⟨rfl, hend.out _ hc1.out⟩
  have h2z : ¬ (300 : Int) < (N.length : Int) := by omega
  have GA := hid (fun (T : Txt) (hTl : T.length ≤ 200) u (hu : Below W0.heap.size W0 u) => lexAllC _ _ N A T u (hD0.out.keep hu) hNl (by omega))
  have GA1 := hid (fun u (hu : Below W0.heap.size W0 u) => GA.out s (by omega) u hu)
  have hfew := (lexCutB_few N A s).1
  obtain ⟨e, hcov, hat⟩ := cutB_cov N A s
  have hcov := hid hcov
  have hrest := hid (fun n (hn : n < (lexCutB N A s).1.length) => cutB_rest hn)
  generalize lexCutB N A s = R at hfew hcov hat hrest GA1
  obtain ⟨l, sn, at'⟩ := R
  dsimp only at hfew hcov hat hrest GA1
  have hele := hcov.out.le
  have helen := hid (hcov.out.fin (Nat.zero_le _))
  go_enter Tryz.func6, Tryz.ntmps6
  go_wp2_with (first
    | (go_at_call 7; refine GW.out.mono ?_; clear GW; rintro e w1 ⟨rfl, hc1⟩; have hc1 := hid hc1; obtain ⟨c0, c1⟩ := hbx.out w1 hc1.out)
    | (go_at_call 11; refine (GA1.out w1 hc1.out).mono ?_; clear GA1; rintro e w2 ⟨tv, rfl, hO2, hc2⟩; obtain ⟨ta, tc, rfl⟩ := own_shape hO2; have hO2 := hid hO2; have k2 := hid (bl_step hc1.out hc2)))
  clear c0 c1 hW0
  obtain ⟨L, hL⟩ : ∃ L, Hid (l.length = L) := ⟨_, hid rfl⟩
  rw [hL.out] at hfew ⊢
  go_loopw [9, 36] (fun x i wr => ∃ (j p : Nat), j ≤ L ∧ p ≤ s.length ∧ i = .int .i64 (j : Int) ∧ x = .int .i64 (p : Int) ∧ Hid (Cov s.length p (l.drop j) e) ∧ Hid (Below w2.heap.size w2 wr)) (fun _ i _ => L - (intOf i).toNat)
  case atStart => exact ⟨0, 0, by omega, by omega, rfl, rfl, hcov, hid (Below.refl _ _)⟩
  case round =>
    obtain ⟨j, p, hj, hp, rfl, rfl, hC, hw⟩ := hrel
    by_cases hlt : j < L
    · have hltz : (j : Int) < (L : Int) := by omega
      obtain ⟨g, c1, he, x0, x1, x2⟩ := own_tok (own_below hO2.out hw.out) (k := j) (by rw [hL.out]; exact hlt)
      rw [hL.out] at he
      injection he with he _ hc
      subst he hc
      obtain ⟨s1, s2, s3, s4⟩ := hC.out.step (k := j) (by rw [hL.out]; exact hlt)
      have s4 := hid s4
      generalize l.getD j (0, 0, 0) = t at *
      obtain ⟨t0, t1, t2⟩ := t
      dsimp only at x0 x1 x2 s1 s2 s3 s4
      subst s1
      have hw2 := hid (bl_step hw.out (al' wr (.cells #[.int .i64 t0, .int .i64 (t1 : Int), .int .i64 (t2 : Int)] 28)))
      obtain ⟨⟨y0, -⟩, ⟨y1, -⟩, ⟨y2, -⟩⟩ := cells3m (heap_new wr (.cells #[.int .i64 t0, .int .i64 (t1 : Int), .int .i64 (t2 : Int)] 28))
      have q1 : ¬ (t2 : Int) < 1 := by omega
      have q2 : ¬ (s.length : Int) - (t1 : Int) < (t2 : Int) := by omega
      go_wp2
      go_roundw
      case rel => exact ⟨j + 1, t1 + t2, by omega, by omega, by go_num, by go_num, s4, hw2⟩
      case measure => simp [intOf]; omega
    · have hltz : ¬ (j : Int) < (L : Int) := by omega
      have hjL : L = j := by omega
      subst hjL
      have hpe : p = e := by
        have h9 := hC.out
        rw [List.drop_eq_nil_of_le (by rw [hL.out]; exact Nat.le_refl _)] at h9
        exact h9
      subst hpe
      obtain ⟨kn, rfl⟩ : ∃ kn : Nat, k = (kn : Int) := ⟨k.toNat, by omega⟩
      rcases hat with ⟨rfl, hpl⟩ | rfl
      · subst hpl
        by_cases hL0 : L = 0
        · subst hL0
          clear hrest
          go_wp2
          go_ret
          exact ⟨rfl, hend.out _ (bl_step k2.out hw.out)⟩
        have hL0b : ((L : Int) == 0) = false := by rw [beq_eq_false_iff_ne]; omega
        have hL0n : ¬ (L : Int) = 0 := by omega
        obtain ⟨n, hn⟩ : ∃ n : Nat, kn % L = n := ⟨_, rfl⟩
        have hnL : n < L := by rw [← hn]; exact Nat.mod_lt _ (by omega)
        have hnz : (n : Int) < (L : Int) := by omega
        have hmod : (kn : Int) % (L : Int) = (n : Int) := by rw [← hn]; exact (Int.natCast_emod _ _).symm
        have hmod2 : (kn : Int).tmod (L : Int) = (n : Int) := by rw [Int.tmod_eq_emod_of_nonneg (by omega)]; exact hmod
        obtain ⟨g, c1, he, x0, x1, x2⟩ := own_tok (own_below hO2.out hw.out) (k := n) (by rw [hL.out]; exact hnL)
        rw [hL.out] at he
        injection he with he _ hc
        subst he hc
        have hfr := hid (hcov.out.after (k := n) (by rw [hL.out]; exact hnL)).2
        have hmono := hid (fun i (h1 : n ≤ i) (h2 : i < L) => And.intro (hcov.out.mono h1 (by rw [hL.out]; exact h2)) (hcov.out.after (k := i) (by rw [hL.out]; exact h2)).2)
        have hre := hid (hrest.out n (by rw [hL.out]; exact hnL))
        generalize (l.getD n (0, 0, 0)).2.1 = fr at *
        have hfr := hfr.out
        have hfrz : (fr : Int) ≤ (s.length : Int) := by omega
        have hex := strT_from s fr hfr
        have hex2 : (strT s).extract fr (strT s).size = strT (s.drop fr) := by rw [hsz]; exact hex
        have GB := hid (fun u (hu : Below W0.heap.size W0 u) => GA.out (s.drop fr) (by rw [List.length_drop]; omega) u hu)
        generalize lexCutB N A (s.drop fr) = R3 at hre GB
        obtain ⟨m, sn3, at3⟩ := R3
        dsimp only at hre GB
        have hml : Hid (m.length = L - n) := hid (by rw [hre.out, List.length_map, List.length_drop, hL.out])
        have hmg : Hid (∀ i, i < L - n → m.getD i (0, 0, 0) = ((l.getD (n + i) (0, 0, 0)).1, (l.getD (n + i) (0, 0, 0)).2.1 - fr, (l.getD (n + i) (0, 0, 0)).2.2)) := hid (fun i hi => by
          rw [hre.out, List.getD_eq_getElem?_getD, List.getElem?_map, List.getElem?_drop, List.getD_eq_getElem?_getD, List.getElem?_eq_getElem (by rw [hL.out]; omega)]
          rfl)
        generalize strT (s.drop fr) = U at *
        obtain ⟨M, hM⟩ : ∃ M, L - n = M := ⟨_, rfl⟩
        rw [hM] at hml hmg
        have hMz : (L : Int) - (n : Int) = (M : Int) := by omega
        clear hre hrest hcov hL0
        have hw0 := hid (bl_step k2.out hw.out)
        have hd := hid (bl_step hw0.out ((Below.refl wr.heap.size wr).drew))
        obtain ⟨d0, d1⟩ := hbx.out wr.drew hd.out
        go_wp2_with fail
        go_region_held3 (fun w' => w'.cell? ⟨w.heap.size, 0, none⟩ = some (.slice na N.length nc) ∧ w'.cell? ⟨w.heap.size, 1, none⟩ = some (.slice aa A.length ac)) (go_keep) ((first
          | (go_at_call 11; refine (GB.out wr.drew hd.out).mono ?_; clear GB; rintro z w4 ⟨tv4, rfl, hO4, hc4⟩; have hsh := own_shape hO4; rw [hml.out] at hsh; obtain ⟨tb, tcb, rfl⟩ := hsh; have hO4 := hid hO4; have k4 := hid (bl_step hd.out hc4); have hO5 := hid (own_below (own_below hO2.out (bl_step hw.out ((Below.refl wr.heap.size wr).drew))) hc4); obtain ⟨e0, e1⟩ := hbx.out w4 k4.out)))
        clear d0 d1 e0 e1 hmod hmod2 hex hex2
        go_wp2_with fail
        go_loopw [110] (fun x wr => ∃ j : Nat, j ≤ M ∧ x = .int .i64 (j : Int) ∧ Hid (Below w4.heap.size w4 wr)) (fun x _ => M - (intOf x).toNat)
        case atStart => exact ⟨0, by omega, rfl, hid (Below.refl _ _)⟩
        case round =>
          obtain ⟨j, hj, rfl, hw5⟩ := hrel
          by_cases hjt : j < M
          · have hjtz : (j : Int) < (M : Int) := by omega
            obtain ⟨q, hq⟩ : ∃ q : Nat, n + j = q := ⟨_, rfl⟩
            have hqz : (n : Int) + (j : Int) = (q : Int) := by omega
            have hqL : (q : Int) < (L : Int) := by omega
            obtain ⟨g4, c4, he4, y0, y1, y2⟩ := own_tok (own_below hO4.out hw5.out) (k := j) (by rw [hml.out]; exact hjt)
            rw [hml.out] at he4
            injection he4 with he4 _ hc4
            subst he4 hc4
            obtain ⟨g5, c5, he5, z0, z1, z2⟩ := own_tok (own_below hO5.out hw5.out) (k := q) (by rw [hL.out]; omega)
            rw [hL.out] at he5
            injection he5 with he5 _ hc5
            have he5 : g = g5 := by injection he5 with he5; injection he5
            subst he5 hc5
            have hmj := hmg.out j hjt
            rw [hq] at hmj
            obtain ⟨hle, hle2⟩ := hmono.out q (by omega) (by omega)
            rw [hmj] at y0 y1 y2
            generalize l.getD q (0, 0, 0) = t at *
            obtain ⟨t0, t1, t2⟩ := t
            dsimp only at y0 y1 y2 z0 z1 z2 hle hle2
            obtain ⟨d, hd9⟩ : ∃ d : Nat, t1 - fr = d := ⟨_, rfl⟩
            rw [hd9] at y1
            have hsum : (d : Int) + (fr : Int) = (t1 : Int) := by omega
            have hw6 := hid (hw5.out.drew)
            clear hmj hle
            go_wp2_with fail
            go_region
            go_wp2
            refine ⟨⟨j + 1, by omega, by go_num, by first | exact hw6 | exact hw5⟩, ?_⟩
            simp [intOf]; omega
          · have hjtz : ¬ (j : Int) < (M : Int) := by omega
            have hjM : M = j := by omega
            subst hjM
            go_wp2
            go_ret
            exact ⟨rfl, hend.out _ (bl_step k4.out hw5.out)⟩
      · have hpn : ((p : Int) == -1) = false := by rw [beq_eq_false_iff_ne]; omega
        have hpn2 : ¬ (p : Int) = -1 := by omega
        by_cases hL0 : L = 0
        · subst hL0
          clear hrest
          go_wp2
          go_ret
          exact ⟨rfl, hend.out _ (bl_step k2.out hw.out)⟩
        have hL0b : ((L : Int) == 0) = false := by rw [beq_eq_false_iff_ne]; omega
        have hL0n : ¬ (L : Int) = 0 := by omega
        obtain ⟨n, hn⟩ : ∃ n : Nat, kn % L = n := ⟨_, rfl⟩
        have hnL : n < L := by rw [← hn]; exact Nat.mod_lt _ (by omega)
        have hnz : (n : Int) < (L : Int) := by omega
        have hmod : (kn : Int) % (L : Int) = (n : Int) := by rw [← hn]; exact (Int.natCast_emod _ _).symm
        have hmod2 : (kn : Int).tmod (L : Int) = (n : Int) := by rw [Int.tmod_eq_emod_of_nonneg (by omega)]; exact hmod
        obtain ⟨g, c1, he, x0, x1, x2⟩ := own_tok (own_below hO2.out hw.out) (k := n) (by rw [hL.out]; exact hnL)
        rw [hL.out] at he
        injection he with he _ hc
        subst he hc
        have hfr := hid (hcov.out.after (k := n) (by rw [hL.out]; exact hnL)).2
        have hmono := hid (fun i (h1 : n ≤ i) (h2 : i < L) => And.intro (hcov.out.mono h1 (by rw [hL.out]; exact h2)) (hcov.out.after (k := i) (by rw [hL.out]; exact h2)).2)
        have hre := hid (hrest.out n (by rw [hL.out]; exact hnL))
        generalize (l.getD n (0, 0, 0)).2.1 = fr at *
        have hfr := hfr.out
        have hfrz : (fr : Int) ≤ (s.length : Int) := by omega
        have hex := strT_from s fr hfr
        have hex2 : (strT s).extract fr (strT s).size = strT (s.drop fr) := by rw [hsz]; exact hex
        have GB := hid (fun u (hu : Below W0.heap.size W0 u) => GA.out (s.drop fr) (by rw [List.length_drop]; omega) u hu)
        generalize lexCutB N A (s.drop fr) = R3 at hre GB
        obtain ⟨m, sn3, at3⟩ := R3
        dsimp only at hre GB
        have hml : Hid (m.length = L - n) := hid (by rw [hre.out, List.length_map, List.length_drop, hL.out])
        have hmg : Hid (∀ i, i < L - n → m.getD i (0, 0, 0) = ((l.getD (n + i) (0, 0, 0)).1, (l.getD (n + i) (0, 0, 0)).2.1 - fr, (l.getD (n + i) (0, 0, 0)).2.2)) := hid (fun i hi => by
          rw [hre.out, List.getD_eq_getElem?_getD, List.getElem?_map, List.getElem?_drop, List.getD_eq_getElem?_getD, List.getElem?_eq_getElem (by rw [hL.out]; omega)]
          rfl)
        generalize strT (s.drop fr) = U at *
        obtain ⟨M, hM⟩ : ∃ M, L - n = M := ⟨_, rfl⟩
        rw [hM] at hml hmg
        have hMz : (L : Int) - (n : Int) = (M : Int) := by omega
        clear hre hrest hcov hL0
        have hw0 := hid (bl_step k2.out hw.out)
        have hd := hid (bl_step hw0.out ((Below.refl wr.heap.size wr).drew))
        obtain ⟨d0, d1⟩ := hbx.out wr.drew hd.out
        go_wp2_with fail
        go_region_held3 (fun w' => w'.cell? ⟨w.heap.size, 0, none⟩ = some (.slice na N.length nc) ∧ w'.cell? ⟨w.heap.size, 1, none⟩ = some (.slice aa A.length ac)) (go_keep) ((first
          | (go_at_call 11; refine (GB.out wr.drew hd.out).mono ?_; clear GB; rintro z w4 ⟨tv4, rfl, hO4, hc4⟩; have hsh := own_shape hO4; rw [hml.out] at hsh; obtain ⟨tb, tcb, rfl⟩ := hsh; have hO4 := hid hO4; have k4 := hid (bl_step hd.out hc4); have hO5 := hid (own_below (own_below hO2.out (bl_step hw.out ((Below.refl wr.heap.size wr).drew))) hc4); obtain ⟨e0, e1⟩ := hbx.out w4 k4.out)))
        clear d0 d1 e0 e1 hmod hmod2 hex hex2
        go_wp2_with fail
        go_loopw [110] (fun x wr => ∃ j : Nat, j ≤ M ∧ x = .int .i64 (j : Int) ∧ Hid (Below w4.heap.size w4 wr)) (fun x _ => M - (intOf x).toNat)
        case atStart => exact ⟨0, by omega, rfl, hid (Below.refl _ _)⟩
        case round =>
          obtain ⟨j, hj, rfl, hw5⟩ := hrel
          by_cases hjt : j < M
          · have hjtz : (j : Int) < (M : Int) := by omega
            obtain ⟨q, hq⟩ : ∃ q : Nat, n + j = q := ⟨_, rfl⟩
            have hqz : (n : Int) + (j : Int) = (q : Int) := by omega
            have hqL : (q : Int) < (L : Int) := by omega
            obtain ⟨g4, c4, he4, y0, y1, y2⟩ := own_tok (own_below hO4.out hw5.out) (k := j) (by rw [hml.out]; exact hjt)
            rw [hml.out] at he4
            injection he4 with he4 _ hc4
            subst he4 hc4
            obtain ⟨g5, c5, he5, z0, z1, z2⟩ := own_tok (own_below hO5.out hw5.out) (k := q) (by rw [hL.out]; omega)
            rw [hL.out] at he5
            injection he5 with he5 _ hc5
            have he5 : g = g5 := by injection he5 with he5; injection he5
            subst he5 hc5
            have hmj := hmg.out j hjt
            rw [hq] at hmj
            obtain ⟨hle, hle2⟩ := hmono.out q (by omega) (by omega)
            rw [hmj] at y0 y1 y2
            generalize l.getD q (0, 0, 0) = t at *
            obtain ⟨t0, t1, t2⟩ := t
            dsimp only at y0 y1 y2 z0 z1 z2 hle hle2
            obtain ⟨d, hd9⟩ : ∃ d : Nat, t1 - fr = d := ⟨_, rfl⟩
            rw [hd9] at y1
            have hsum : (d : Int) + (fr : Int) = (t1 : Int) := by omega
            have hw6 := hid (hw5.out.drew)
            clear hmj hle
            go_wp2_with fail
            go_region
            go_wp2
            refine ⟨⟨j + 1, by omega, by go_num, by first | exact hw6 | exact hw5⟩, ?_⟩
            simp [intOf]; omega
          · have hjtz : ¬ (j : Int) < (M : Int) := by omega
            have hjM : M = j := by omega
            subst hjM
            go_wp2
            go_ret
            exact ⟨rfl, hend.out _ (bl_step k4.out hw5.out)⟩

end Go.Proofs.YtonlcnmlklaicaaGreatDoor
