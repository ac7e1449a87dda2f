/- CheckTexts' walk. -/
import Derived.Test.YthgbjhnknepefaaGreatJ36
namespace Go.Proofs.YthgbjhnknepefaaGreat
open Go.RowKit Go.Maps Go.Sort

theorem least {P : Nat → Prop} : ∀ n, P n → ∃ m, P m ∧ ∀ k, k < m → ¬ P k := by
  intro n
  induction n using Nat.strongRecOn with
  | _ n ih =>
    intro hn
    by_cases h : ∃ k, k < n ∧ P k
    · obtain ⟨k, h1, h2⟩ := h
      exact ih k h1 h2
    · exact ⟨n, hn, fun k hk hp => h ⟨k, hk, hp⟩⟩
theorem chk_total (g : Gm) : ∃ n e, ChkR g n e := by
  by_cases hg : SndG g
  · by_cases h1 : ∃ i, ∃ hi : i < g.rules.length, nulB g.rules[i].re = true
    · obtain ⟨i, hi⟩ := h1
      obtain ⟨m, ⟨hm, h2⟩, h3⟩ := least (P := fun i => ∃ hi : i < g.rules.length, nulB g.rules[i].re = true) i hi
      exact ⟨_, _, ChkR.empty m hm hg h2 (fun j hj hjm => by rw [Bool.eq_false_iff]; exact fun e => h3 j hjm ⟨hj, e⟩)⟩
    · have h1 : ∀ j (hj : j < g.rules.length), nulB g.rules[j].re = false := fun j hj => by rw [Bool.eq_false_iff]; exact fun e => h1 ⟨j, hj, e⟩
      rcases Nat.eq_zero_or_pos g.nonts.length with h0 | h0
      · exact ⟨_, _, ChkR.none hg h1 h0⟩
      · have hall : (g.all : Int) = (g.terms : Int) + (g.nonts.length : Int) := by unfold Gm.all; omega
        by_cases h2 : ∃ k : Nat, k < g.nonts.length ∧ ¬ Rch g ((g.terms : Int) + 1 + (k : Int))
        · obtain ⟨k, hk⟩ := h2
          obtain ⟨m, ⟨hm, h3⟩, h4⟩ := least (P := fun k : Nat => k < g.nonts.length ∧ ¬ Rch g ((g.terms : Int) + 1 + (k : Int))) k hk
          refine ⟨_, _, ChkR.reach ((g.terms : Int) + 1 + (m : Int)) hg h1 h0 (by omega) (by omega) h3 (fun n p1 p2 => Classical.byContradiction fun hn => ?_)⟩
          refine h4 (n - (g.terms : Int) - 1).toNat (by omega) ⟨by omega, ?_⟩
          rw [show (g.terms : Int) + 1 + (((n - (g.terms : Int) - 1).toNat : Nat) : Int) = n by omega]
          exact hn
        · have h2 : ∀ m, (g.terms : Int) < m → m ≤ (g.all : Int) → Rch g m := fun n p1 p2 => Classical.byContradiction fun hn => h2 ⟨(n - (g.terms : Int) - 1).toNat, by omega, by
            rw [show (g.terms : Int) + 1 + (((n - (g.terms : Int) - 1).toNat : Nat) : Int) = n by omega]
            exact hn⟩
          by_cases h3 : ∃ k : Nat, k < g.nonts.length ∧ ¬ Ends g ((g.terms : Int) + 1 + (k : Int))
          · obtain ⟨k, hk⟩ := h3
            obtain ⟨m, ⟨hm, h3⟩, h4⟩ := least (P := fun k : Nat => k < g.nonts.length ∧ ¬ Ends g ((g.terms : Int) + 1 + (k : Int))) k hk
            refine ⟨_, _, ChkR.dry ((g.terms : Int) + 1 + (m : Int)) hg h1 h0 h2 (by omega) (by omega) h3 (fun n p1 p2 => Classical.byContradiction fun hn => ?_)⟩
            refine h4 (n - (g.terms : Int) - 1).toNat (by omega) ⟨by omega, ?_⟩
            rw [show (g.terms : Int) + 1 + (((n - (g.terms : Int) - 1).toNat : Nat) : Int) = n by omega]
            exact hn
          · have h3 : ∀ m, (g.terms : Int) < m → m ≤ (g.all : Int) → Ends g m := fun n p1 p2 => Classical.byContradiction fun hn => h3 ⟨(n - (g.terms : Int) - 1).toNat, by omega, by
              rw [show (g.terms : Int) + 1 + (((n - (g.terms : Int) - 1).toNat : Nat) : Int) = n by omega]
              exact hn⟩
            exact ⟨_, _, ChkR.fine hg h1 h0 (fun m p1 p2 => ⟨h2 m p1 p2, h3 m p1 p2⟩)⟩
  · exact ⟨_, _, ChkR.arg hg⟩
/-- the answers of a sound grammar -/
theorem chk_five {g : Gm} (hg : SndG g) : (∃ n e, ChkR g n e ∧ (e = 7 ∨ e = 4 ∨ e = 8 ∨ e = 9)) ∨ (ChkR g 0 0 ∧ Rch g g.start ∧ Ends g g.start) := by
  obtain ⟨n, e, h⟩ := chk_total g
  have h' := h
  cases h with
  | arg h1 => exact absurd hg h1
  | empty i hi _ _ _ => exact .inl ⟨_, _, h', .inl rfl⟩
  | none _ _ _ => exact .inl ⟨_, _, h', .inr (.inl rfl)⟩
  | reach n _ _ _ _ _ _ _ => exact .inl ⟨_, _, h', .inr (.inr (.inl rfl))⟩
  | dry n _ _ _ _ _ _ _ _ => exact .inl ⟨_, _, h', .inr (.inr (.inr rfl))⟩
  | fine _ _ h0 h3 =>
    have := hg.start h0
    exact .inr ⟨h', h3 _ this.1 this.2⟩
set_option maxRecDepth 20000 in
set_option maxHeartbeats 16000000 in
theorem checkTextsWalk {prs : Txt → Option Gm} (HP : PrsOK prs) (HR : RdOK prs) (HC : CkOK) (HW : WkOK) (s : Txt) (w : World) (hs : s.length ≤ 9223372036854775807) : Calls Tryz.prog 7 #[.string (strT s)] w fun e w' => e = .returned (.bool true) ∧ Below w.heap.size w w' := by
  have hsz := strT_size s
  have GW := hid (HW.wakes w)
  by_cases h4 : (4096 : Int) < ((strT s).size : Int)
  · clear HC HW HP HR hsz
    go_enter Tryz.func7, Tryz.ntmps7
    go_wp2_with (go_at_call 8; refine GW.out.mono ?_; clear GW; rintro e w1 ⟨rfl, hc1⟩; have h1 := hid hc1; clear hc1)
    go_ret
    exact ⟨rfl, h1.out⟩
  · cases hp : prs s with
    | none =>
      have GP := hid (fun u => HP.no s u (by omega) hp)
      clear HC HW HP HR hsz hp
      generalize strT s = S at *
      go_enter Tryz.func7, Tryz.ntmps7
      go_wp2_with (first
        | (go_at_call 8; refine GW.out.mono ?_; clear GW; rintro e w1 ⟨rfl, hc1⟩; have h1 := hid hc1; clear hc1)
        | (go_at_call 10; refine (GP.out _).mono ?_; clear GP; rintro e w3 ⟨ra', na', la', pa', rc', nc', lc', pc', st', n3, er, rfl, her, hc3⟩; have herz : (er != 0) = true := bne_iff_ne.2 her; clear her; have h3 := hid (bl_step (bl_step h1.out hc3) (al' w3 (.cells #[.slice ra' 0 rc', .slice na' 0 nc', .slice la' 0 lc', .slice pa' 0 pc', .int .i64 st'] 27))); clear hc3))
      go_ret
      exact ⟨rfl, h3.out⟩
    | some g =>
      have GP := hid (fun u => HP.yes s g u (by omega) hp)
      have hg := HR.sound s g hp
      have hb := HP.bnd s g hp
      rcases chk_five hg with ⟨n0, e0, hR, hcase⟩ | ⟨hR, hr1, he1⟩
      · have GC : Hid (∀ rv nv lv pv u, GmV u rv nv lv pv g → Calls Tryz.prog 13 #[gmA rv nv lv pv g.start] u fun e w' => e = .returned (.tuple #[.int .i64 n0, .int .i64 e0]) ∧ Below u.heap.size u w') := hid (fun rv nv lv pv u h => (HC.check g rv nv lv pv u hb hg.names h).mono (fun e w' => by
          rintro ⟨n, er, rfl, hR', hb⟩
          obtain ⟨u1, u2⟩ := hR'.uniq hR
          subst u1 u2
          exact ⟨rfl, hb⟩))
        clear HC HW HP HR hsz hp hg hb hR
        generalize strT s = S at *
        rcases hcase with rfl | rfl | rfl | rfl <;>
        · go_enter Tryz.func7, Tryz.ntmps7
          go_wp2_with (first
            | (go_at_call 8; refine GW.out.mono ?_; clear GW; rintro e w1 ⟨rfl, hc1⟩; have h1 := hid hc1; clear hc1)
            | (go_at_call 10; refine (GP.out _).mono ?_; clear GP; rintro e w3 ⟨rv', nv', lv', pv', rfl, hV', hc3⟩; obtain ⟨ra', rc', hre⟩ := hV'.rules.shape; obtain ⟨na', nc', hne⟩ := hV'.nonts.shape; obtain ⟨la', lc', hle⟩ := hV'.levels.shape; obtain ⟨pa', pc', hpe⟩ := hV'.prods.shape; subst hre hne hle hpe; have hal := al' w3 (.cells #[.slice ra' g.rules.length rc', .slice na' g.nonts.length nc', .slice la' g.levels.length lc', .slice pa' g.prods.length pc', .int .i64 g.start] 27); have h3 := hid (bl_step (bl_step h1.out hc3) hal); have hV4 := hid (hV'.keep hal); obtain ⟨x0, x1, x2, x3, x4⟩ := cells5m (heap_new w3 (.cells #[.slice ra' g.rules.length rc', .slice na' g.nonts.length nc', .slice la' g.levels.length lc', .slice pa' g.prods.length pc', .int .i64 g.start] 27)); clear hc3 hal hV')
            | (go_at_call 13; refine (GC.out _ _ _ _ _ hV4.out).mono ?_; clear GC; rintro e w4 ⟨rfl, hc4⟩; have h5 := hid (bl_step h3.out hc4); clear hc4))
          go_quiet (fail)
          go_wp2
          go_ret
          exact ⟨by simp, by first | exact h5.out | exact belowN h5.out⟩
      · have GC : Hid (∀ rv nv lv pv u, GmV u rv nv lv pv g → Calls Tryz.prog 13 #[gmA rv nv lv pv g.start] u fun e w' => e = .returned (.tuple #[.int .i64 0, .int .i64 0]) ∧ Below u.heap.size u w') := hid (fun rv nv lv pv u h => (HC.check g rv nv lv pv u hb hg.names h).mono (fun e w' => by
          rintro ⟨n, er, rfl, hR', hb⟩
          obtain ⟨u1, u2⟩ := hR'.uniq hR
          subst u1 u2
          exact ⟨rfl, hb⟩))
        obtain ⟨l1, l2⟩ := lists_len hg
        have eA : rchA g = ofL (rcN g (g.nonts.length + 1)) := by unfold rchA; exact @if_pos _ (Classical.propDecidable _) hg _ _ _
        have eB : endA g = ofL (enN g (g.nonts.length + 1)) := by unfold endA; exact @if_pos _ (Classical.propDecidable _) hg _ _ _
        have GA := hid (fun rv nv lv pv u (h : GmV u rv nv lv pv g) => HC.reached g rv nv lv pv u hb hg.names h)
        have GB := hid (fun rv nv lv pv u (h : GmV u rv nv lv pv g) => HC.ends g rv nv lv pv u hb hg.names h)
        rw [eA] at GA
        rw [eB] at GB
        have G1 := hid (fun v u (h : Nums u v (ofL (rcN g (g.nonts.length + 1)))) => numHas v _ g.start u (by omega) h)
        have G2 := hid (fun v u (h : Nums u v (ofL (enN g (g.nonts.length + 1)))) => numHas v _ g.start u (by omega) h)
        rw [(rc_has hg g.start).2 hr1] at G1
        rw [(en_has hg g.start).2 he1] at G2
        clear HC HW HP HR hsz hp hg hb hR eA eB l1 l2 hr1 he1
        generalize strT s = S at *
        generalize ofL (rcN g (g.nonts.length + 1)) = LR at *
        generalize ofL (enN g (g.nonts.length + 1)) = LE at *
        go_enter Tryz.func7, Tryz.ntmps7
        go_wp2_with (first
          | (go_at_call 8; refine GW.out.mono ?_; clear GW; rintro e w1 ⟨rfl, hc1⟩; have h1 := hid hc1; clear hc1)
          | (go_at_call 10; refine (GP.out _).mono ?_; clear GP; rintro e w3 ⟨rv', nv', lv', pv', rfl, hV', hc3⟩; obtain ⟨ra', rc', hre⟩ := hV'.rules.shape; obtain ⟨na', nc', hne⟩ := hV'.nonts.shape; obtain ⟨la', lc', hle⟩ := hV'.levels.shape; obtain ⟨pa', pc', hpe⟩ := hV'.prods.shape; subst hre hne hle hpe; have hal := al' w3 (.cells #[.slice ra' g.rules.length rc', .slice na' g.nonts.length nc', .slice la' g.levels.length lc', .slice pa' g.prods.length pc', .int .i64 g.start] 27); have h3 := hid (bl_step (bl_step h1.out hc3) hal); have hV4 := hid (hV'.keep hal); have hk4 := hid (heap_new w3 (.cells #[.slice ra' g.rules.length rc', .slice na' g.nonts.length nc', .slice la' g.levels.length lc', .slice pa' g.prods.length pc', .int .i64 g.start] 27)); obtain ⟨x0, x1, x2, x3, x4⟩ := cells5m hk4.out; clear hc3 hal hV')
          | (go_at_call 13; refine (GC.out _ _ _ _ _ hV4.out).mono ?_; clear GC; rintro e w4 ⟨rfl, hc4⟩; have h5 := hid (bl_step h3.out hc4); have hV5 := hid (hV4.out.keep hc4); have hk5 := hid (hs_keep hk4.out hc4); clear hc4 x0 x1 x2 x3 x4 hV4 hk4 h3))
        have hcur := hid (show Below w.heap.size w w4.drew from h5.out.drew)
        have hVc := hid (hV5.out.keep ((Below.refl _ w4).drew))
        have hkc := hid (hs_keep hk5.out ((Below.refl _ w4).drew))
        obtain ⟨z0, z1, z2, z3, z4⟩ := cells5m hkc.out
        clear h5 hV5 hk5 h4 h1
        generalize g.rules.length = rn at *
        generalize g.nonts.length = nn at *
        generalize g.levels.length = ll at *
        generalize g.prods.length = pp at *
        go_region_held3 (fun w' => w'.cell? ⟨w3.heap.size, 0, none⟩ = some (.slice ra' rn rc') ∧ w'.cell? ⟨w3.heap.size, 1, none⟩ = some (.slice na' nn nc') ∧ w'.cell? ⟨w3.heap.size, 2, none⟩ = some (.slice la' ll lc') ∧ w'.cell? ⟨w3.heap.size, 3, none⟩ = some (.slice pa' pp pc') ∧ w'.cell? ⟨w3.heap.size, 4, none⟩ = some (.int .i64 g.start)) (go_keep) ((first
          | (go_at_call 15; refine (GA.out _ _ _ _ _ hVc.out).mono ?_; rintro e w6 ⟨v6, rfl, hN6, hc⟩; obtain ⟨a6, c6, e6⟩ := shapeN13 hN6; subst e6; have hNa := hid hN6; have hn := hid (bl_step hcur.out hc); have hv := hid (hVc.out.keep hc); have hk := hid (hs_keep hkc.out hc); clear hcur hVc hkc z0 z1 z2 z3 z4 hN6; have hcur := hn; have hVc := hv; have hkc := hk; clear hn hv hk hc; obtain ⟨z0, z1, z2, z3, z4⟩ := cells5m hkc.out)
          | (go_at_call 21; refine (G1.out _ _ hNa.out).mono ?_; clear hNa; rintro e w7 ⟨rfl, hc⟩; subst w7)
          | (go_at_call 16; refine (GB.out _ _ _ _ _ hVc.out).mono ?_; rintro e w8 ⟨v8, rfl, hN8, hc⟩; obtain ⟨a8, c8, e8⟩ := shapeN13 hN8; subst e8; have hNb := hid hN8; have hn := hid (bl_step hcur.out hc); have hv := hid (hVc.out.keep hc); have hk := hid (hs_keep hkc.out hc); clear hcur hVc hkc z0 z1 z2 z3 z4 hN8; have hcur := hn; have hVc := hv; have hkc := hk; clear hn hv hk hc; obtain ⟨z0, z1, z2, z3, z4⟩ := cells5m hkc.out)
          | (go_at_call 21; refine (G2.out _ _ hNb.out).mono ?_; clear hNb; rintro e w9 ⟨rfl, hc⟩; subst w9)))
        all_goals
          go_wp2
          go_ret
          exact ⟨by simp, hcur.out⟩

end Go.Proofs.YthgbjhnknepefaaGreat
