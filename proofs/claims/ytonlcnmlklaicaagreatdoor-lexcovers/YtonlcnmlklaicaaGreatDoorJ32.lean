/- dfa.Build, of right rules. wakes. regex.Parse once more: its cells lie in memory of its own. Layer 9's small functions: what a state accepts, where it leads, its kind. -/
import Derived.Test.YtonlcnmlklaicaaGreatDoorJ30
import Derived.Test.YtonlcnmlklaicaaGreatDoorJ31
import Derived.Test.YtonlcnmlklaicaaGreatDoorJ24
import Derived.Test.YtonlcnmlklaicaaGreatDoorJ15
import Derived.Test.YtonlcnmlklaicaaGreatDoorJ19
import Derived.Defers
import Derived.Recover
namespace Go.Proofs.YtonlcnmlklaicaaGreatDoor
open Go.RowKit Go.Maps

/-- what Build answers -/
def BldR (ts : List Rx) (w : World) (nv av : Value) (er : Int) : Prop := ∃ all, SpAll ts all ∧ ((er = 0 ∧ ∃ n, BldTo all n ∧ Numss w nv (nxtK all n) ∧ Nums w av (accK all n)) ∨ (er = 3 ∧ nv = nilV ∧ av = nilV ∧ BldFull all))
theorem PlR.shapes {ts : List Rx} {w : World} {sv bv fv : Value} (h : PlR ts w sv bv fv) : (∃ a n c, sv = .slice a n c) ∧ (∃ a n c, bv = .slice a n c) ∧ (∃ a n c, fv = .slice a n c) := by
  obtain ⟨all, _, ⟨a1, c1, e1, _⟩, ⟨a2, c2, e2, _⟩, ⟨a3, c3, e3, _⟩⟩ := h
  exact ⟨⟨a1, _, c1, e1⟩, ⟨a2, _, c2, e2⟩, ⟨a3, _, c3, e3⟩⟩
set_option maxRecDepth 20000 in
theorem run_mm (w : World) : (Instr.makeMap 73 none).run Tryz.prog w = .ok (.map (some w.heap.size)) (w.alloc (.map #[] 0)) := rfl
set_option maxRecDepth 20000 in
/-- a meeting without a state -/
theorem MeO.start (w : World) : MeO w.heap.size (w.heap.size + 1) (fun k => k = w.heap.size ∨ k = w.heap.size + 1) ((w.alloc (.map #[] 0)).alloc (.cells #[.slice none 0 0, .map (some w.heap.size)] 76)) (.slice none 0 0) w.heap.size [] := by
  have hs : (w.alloc (.map #[] 0)).heap.size = w.heap.size + 1 := by simp
  have h2 := heap_new (w.alloc (.map #[] 0)) (.cells #[.slice none 0 0, .map (some w.heap.size)] 76)
  rw [hs] at h2
  refine ⟨h2, World.ownsRow_nil _ _ _ _, ?_, fun k e => (by cases e), ⟨Or.inl rfl, by omega⟩, Or.inr rfl, fun k hk => ?_, by omega⟩
  · exact own_map_kept (World.ownsMap_made w Tryz.prog 9 (plainElem (H := Unit) Tryz.prog 3)) ((al' (w.alloc (.map #[] 0)) _).block _ (by rw [hs]; omega))
  · have : ((w.alloc (.map #[] 0)).alloc (.cells #[.slice none 0 0, .map (some w.heap.size)] 76)).heap.size = w.heap.size + 2 := by simp
    rw [this]
    omega
/-- an automaton without a state -/
theorem DfO.start {B : Nat} {F : Nat → Prop} {w : World} (hB : B ≤ w.heap.size) (hF : ∀ k, F k → k < w.heap.size) : DfO B w.heap.size (fun k => k = w.heap.size) F (w.alloc (.cells #[.slice none 0 0, .slice none 0 0] 25)) (.slice none 0 0) (.slice none 0 0) [] [] [] :=
  ⟨heap_new w _, World.ownsRow_nil _ _ _ _, fun k e => (by cases e), World.ownsRow_nil _ _ _ _, fun k e => (by cases e), NumsF.nil _ _, rfl, fun k e => by subst e; simp, fun k e hf => by have := hF k hf; omega, hB⟩
set_option maxRecDepth 20000 in
set_option maxHeartbeats 8000000 in
theorem buildGood (v : Value) (ts : List Rx) (w : World) (hA : Celss w v (ts.map post)) (hn : ts.length ≤ 16) (hok : ∀ t ∈ ts, t.ok ∧ (post t).length ≤ 60) (hT : Tab w) :
    Calls Tryz.prog 17 #[v] w fun z w' => ∃ nv av er, z = .returned (.tuple #[.agg #[nv, av], .int .i64 er]) ∧ BldR ts w' nv av er ∧ Below w.heap.size w w' := by
  have hb0 := hid (al' w (.cells #[.slice none 0 0, .slice none 0 0] 25))
  have hz0 := hid (heap_new w (.cells #[.slice none 0 0, .slice none 0 0] 25))
  have GP := hid (placesGood v ts _ (hA.keep hb0.out) hn hok)
  have hF1 := hid (fun w1 sv bv fv (hb : Below w.heap.size w w1) (h : PlR ts w1 sv bv fv) => build_facts ts w1 sv bv fv hok hn (hT.keep hb) h)
  have hT' := hid hT
  obtain ⟨va, vc, rfl⟩ : ∃ a c, v = .slice a (ts.map post).length c := by obtain ⟨a, c, e, _⟩ := hA; exact ⟨a, c, e⟩
  clear hA hT hok
  generalize (ts.map post).length = vn at *
  have hmm := run_mm
  go_enter Tryz.func17, Tryz.ntmps17
  go_wp2_with (first
    | (go_at_call 26; refine GP.out.mono ?_; rintro z w1 ⟨sv, bv, fv, rfl, hPl, hb1⟩; have hPl := hid hPl; obtain ⟨⟨sa, sn, sc, rfl⟩, ⟨ba, bn, bc, rfl⟩, ⟨fa, fn, fc, rfl⟩⟩ := hPl.out.shapes)
    | fail)
  obtain ⟨mets, nxt, acc, row, an, T, T0, S, hC⟩ := hF1.out w1 _ _ _ (bl_step hb0.out hb1) hPl.out
  have hC := hid hC
  obtain ⟨W2, hW2⟩ : ∃ W2, W2 = w1.alloc (.cells #[.int .i64 (ts.length : Int), .slice sa sn sc, .slice ba bn bc, .slice fa fn fc] 70) := ⟨_, rfl⟩
  have hs2 : W2.heap.size = w1.heap.size + 1 := by rw [hW2]; simp
  have hb2 : Hid (Below w1.heap.size w1 W2) := by rw [hW2]; exact hid (al' w1 _)
  have hq2 : Hid (W2.heap[w1.heap.size]? = some (.cells #[.int .i64 (ts.length : Int), .slice sa sn sc, .slice ba bn bc, .slice fa fn fc] 70)) := by rw [hW2]; exact hid (heap_new w1 _)
  have hz2 : Hid (W2.heap[w.heap.size]? = some (.cells #[.slice none 0 0, .slice none 0 0] 25)) := hid (hs_keep (hs_keep hz0.out hb1) hb2.out)
  have hbw2 : Hid (Below w.heap.size w W2) := hid (bl_step (bl_step hb0.out hb1) hb2.out)
  obtain ⟨F4, hM4, hF4⟩ : ∃ F4 : Nat → Prop, Hid (MeO W2.heap.size (W2.heap.size + 1) F4 ((W2.alloc (.map #[] 0)).alloc (.cells #[.slice none 0 0, .map (some W2.heap.size)] 76)) (.slice none 0 0) W2.heap.size []) ∧ Hid (∀ k, F4 k → W2.heap.size ≤ k) := ⟨_, hid (MeO.start W2), hid (fun k hk => by rcases hk with rfl | rfl <;> omega)⟩
  obtain ⟨W4, hW4⟩ : ∃ W4, W4 = (W2.alloc (.map #[] 0)).alloc (.cells #[.slice none 0 0, .map (some W2.heap.size)] 76) := ⟨_, rfl⟩
  have hb4 : Hid (Below W2.heap.size W2 W4) := by rw [hW4]; exact hid (bl_step (al' W2 _) (al' _ _))
  rw [← hW4] at hM4
  rw [hs2] at hM4 hW4
  rw [← hW2, ← hW4]
  clear hW2 hW4 hb1
  have hs2' := hid hs2
  clear hs2
  have h14 := hid (bl_step hb2.out hb4.out)
  obtain ⟨c0, c1, c2, c3, -⟩ := cells4p (hs_keep hq2.out hb4.out)
  have GS := hid (hC.out.state W4 h14.out)
  have hpx : Hid (∀ u, Below W2.heap.size W2 u → u.cell? ⟨w1.heap.size, 0, none⟩ = some (.int .i64 (ts.length : Int)) ∧ u.cell? ⟨w1.heap.size, 1, none⟩ = some (.slice sa sn sc) ∧ u.cell? ⟨w1.heap.size, 2, none⟩ = some (.slice ba bn bc) ∧ u.cell? ⟨w1.heap.size, 3, none⟩ = some (.slice fa fn fc)) := hid (fun u hu => by
    obtain ⟨a0, a1, a2, a3, -⟩ := cells4p (hs_keep hq2.out hu)
    exact ⟨a0, a1, a2, a3⟩)
  have hm0 : Hid (metT [] T0 = mets 0) := hid (by rw [hC.out.zero]; simp [metT])
  have GPa := hid (fun u (hu : Below W2.heap.size W2 u) => partsC _ S u hC.out.few (hC.out.sets.keep (bl_step hb2.out hu)) (hT'.out.keep (bl_step hbw2.out hu)))
  have GN := hid (fun u h => numberC (w1.heap.size + 1) (w1.heap.size + 1 + 1) (w1.heap.size + 1) F4 (.slice none 0 0) [] T0 u h List.nodup_nil (by simp) hC.out.t0)
  go_wp2_with (first
    | (go_at_call 28; refine GS.out.mono ?_; rintro z w5 ⟨rfl, hb5⟩; have hb25 := hid (bl_step hb4.out hb5); obtain ⟨d0, d1, d2, d3⟩ := hpx.out w5 hb25.out; have hM5 := hid (hM4.out.keep hb5))
    | (go_at_call 27; refine (GN.out w5 hM5.out).mono ?_; rintro z w6 ⟨rfl, F6, tv6, hM6, hv6, -⟩; have hM6 := hid hM6; have hv6 := hid hv6; have hb26 : Hid (Below W2.heap.size W2 w6) := hid (hb25.out.trans (hv6.out.kept.below hF4.out hb25.out.size)); obtain ⟨e0, e1, e2, e3⟩ := hpx.out w6 hb26.out)
    | (go_at_call 29; refine (GPa.out w6 hb26.out).mono ?_; rintro z w7 ⟨pv, rfl, hO7, hb7⟩; have hO7 := hid hO7; have hb7 := hid hb7))
  obtain ⟨pa, pc, rfl⟩ := own_shape hO7.out
  have hPf := hid (parts_fit S)
  have hdal := hid (al' w7 (.cells #[.slice none 0 0, .slice none 0 0] 25))
  have hb27 : Hid (Below W2.heap.size W2 w7) := hid (bl_step hb26.out hb7.out)
  have hrb : Hid (w.heap.size < W2.heap.size) := hid (blk_lt hz2.out)
  have hS0 : Hid (∃ (F D : Nat → Prop) (tv nv av : Value) (vs : List Value), BldS (w1.heap.size + 1) (w1.heap.size + 1 + 1) (w1.heap.size + 1) w7.heap.size w.heap.size W2 (w7.alloc (.cells #[.slice none 0 0, .slice none 0 0] 25)) F D tv nv av (.slice pa (partsB S).length pc) vs (mets 0) (partsB S) (nxt 0) (acc 0)) := hid (by
    have hlt6 := hM6.out.lt
    have s7 := hb7.out.size
    refine ⟨F6, _, tv6, _, _, [], ⟨by rw [← hm0.out]; exact (hM6.out.keep hb7.out).keep hdal.out, by rw [hC.out.q.nxt0, hC.out.q.acc0]; exact DfO.start (by have := hb27.out.size; have := hs2'.out; omega) (fun k hk => by have := hlt6 k hk; omega), (Sets.of_own hO7.out hPf.out).keep hdal.out, fun ad n c e0 h0 hf => ?_, bl_step hb27.out hdal.out, fun k hk => ?_, fun k hk => ?_, fun j => Off.nil _⟩⟩
    · have hl := hO7.out.lt ad.block (by
        rcases hO7.out.2 with ⟨e1, _⟩ | ⟨g, cap, cur, e1, _⟩
        · rw [e0] at e1; cases e1
        · rw [e1] at e0
          injection e0 with e0
          injection e0 with e0
          rw [e1, ← e0]
          rfl)
      rcases hf with hf | hf
      · omega
      · have := hlt6 _ hf; omega
    · rcases hv6.out.new k hk with h1 | h1
      · exact hF4.out k h1
      · exact Nat.le_trans hb25.out.size h1
    · have hk' : k = w7.heap.size := hk
      rw [hk']
      exact hb27.out.size)
  have hQ := hid hC.out.q
  have GR := hid hC.out.rowC
  have GA := hid hC.out.accC
  have hfin := hid hC.out.fin
  obtain ⟨i0, hi0, z00, z01, z02⟩ := info_parts Tryz.info3
  obtain ⟨iN, hiN, zN0, zN1, zN2⟩ := info_parts Tryz.infoNs
  have h1W : Hid (∀ u, Below W2.heap.size W2 u → Below w1.heap.size w1 u) := hid (fun u hu => bl_step hb2.out hu)
  have hWw : Hid (∀ u, Below W2.heap.size W2 u → Below w.heap.size w u) := hid (fun u hu => bl_step hbw2.out hu)
  have hlo : Hid (∀ k, W2.heap.size ≤ k → w1.heap.size ≤ k) := hid (fun k hk => by have := hs2'.out; omega)
  have hzr : Hid (∀ u, Below W2.heap.size W2 u → u.heap[w.heap.size]? = some (.cells #[.slice none 0 0, .slice none 0 0] 25)) := hid (fun u hu => hs_keep hz2.out hu)
  have hlast : Hid (∀ n, (mets n).length ≤ 240 → (∀ j, j < n → j < (mets j).length) → n ≤ (mets n).length) := hid (fun n h1 h2 => by
    rcases Nat.eq_zero_or_pos n with e | e
    · omega
    · have h3 := h2 (n - 1) (by omega)
      have h4 := hQ.out.mono (n - 1)
      rw [show n - 1 + 1 = n by omega] at h4
      omega)
  clear c0 c1 c2 c3 d0 d1 d2 d3 e0 e1 e2 e3 hmm
  generalize hpn : (partsB S).length = pn at *
  clear hpn
  generalize w7.alloc (.cells #[.slice none 0 0, .slice none 0 0] 25) = W8 at hS0 hdal ⊢
  generalize w7.heap.size = db at hS0 ⊢
  generalize w1.heap.size + 1 + 1 = mb at hS0 ⊢
  generalize w1.heap.size + 1 = mm at hS0 ⊢
  generalize partsB S = PS at hS0 GR
  go_wp2_with fail
  go_loopw [9] (fun i wr => ∃ n : Nat, n ≤ 240 ∧ i = .int .i64 n ∧ Hid (∃ (F D : Nat → Prop) (tv nv av : Value) (vs : List Value), BldS mm mb mm db w.heap.size W2 wr F D tv nv av (.slice pa pn pc) vs (mets n) PS (nxt n) (acc n)) ∧ Hid (∀ j, j < n → j < (mets j).length) ∧ Hid (∀ j, j ≤ n → (mets j).length ≤ 240)) (fun i _ => 1000 - (intOf i).toNat)
  case atStart => exact ⟨0, by omega, rfl, hS0, hid (fun j hj => absurd hj (Nat.not_lt_zero _)), hid (fun j hj => (by have hj0 : j = 0 := (by omega); rw [hj0, hQ.out.one]; omega))⟩
  case round =>
    obtain ⟨n, hn240, rfl, hSx, hon, hfew⟩ := hrel
    obtain ⟨F, D, tv, nv, av, vs, hS⟩ := hSx.out
    have hS := hid hS
    obtain ⟨ta, tc, rfl⟩ := own_shape hS.out.me.row
    obtain ⟨na, nc, rfl⟩ := own_shape hS.out.df.nxt
    obtain ⟨aa, ac, rfl⟩ := own_shape hS.out.df.acc
    obtain ⟨m0, m1, -⟩ := cells2m hS.out.me.blk
    have hlen240 := hfew.out n (Nat.le_refl _)
    by_cases hlt : n < (mets n).length
    · have hltz : (n : Int) < ((mets n).length : Int) := by omega
      have hd : Below wr.heap.size wr wr.drew := (Below.refl _ _).drew
      have Sd := hid (hS.out.keep hd)
      have hd := hid hd
      obtain ⟨a0, a1, a2, a3⟩ := hpx.out wr.drew Sd.out.low
      obtain ⟨b0, b1, g0', g1'⟩ := cells2m Sd.out.df.blk
      have hvs : vs.length ≤ 240 := by rw [hS.out.df.nums.1, hQ.out.nlen]; exact hn240
      have GRn := hid (GR.out n F _ wr.drew mm mb mm _ hlt hlen240 (h1W.out _ Sd.out.low) Sd.out.me (fun k hk => hlo.out k (Sd.out.fF k hk)) Sd.out.par (fun ad n c e0 h0 hf => Sd.out.pD ad n c e0 h0 (Or.inr hf)))
      have hrl : Hid ((row n).length = 256) := hid (hQ.out.rlen n)
      have hnS : Hid (nxt (n + 1) = nxt n ++ [row n]) := hid (hQ.out.nxtS n)
      have haS : Hid (acc (n + 1) = acc n ++ [an n]) := hid (hQ.out.accS n)
      have hat1 := hid (hQ.out.at' n hlt)
      have GAn := hid (fun u => GA.out n u hlt)
      have hacl : (acc n).length ≤ 240 := by rw [hQ.out.alen]; exact hn240
      have hmore := hQ.out.more n
      generalize hml : (mets n).length = ml at *
      go_wp2_with fail
      apply collapse
      case h =>
        intro rest
        go_region_law ((first
          | (refine step_append_lies _ (by rfl) (.tmp 37) (.tmp 42) 22 (by rfl) mm 23 iN (.slice none 0 0) 1 24 Tryz.underlying22 hiN zN0 zN1 zN2 rfl (by decide) (.slice na vs.length nc) vs.length vs (by rfl) S3.out.df.nxt ⟨w3.heap.size, 0, none⟩ 1 1 [.slice ra (row n).length rc] (by rfl) (by rfl) (World.news_of_block (heap_new w3 (.cells #[.slice ra (row n).length rc] 23))) (by simp [Value.oneCell']) (by omega) (by (unfold maxLen); omega) (by omega) S3.out.df.size (w3.alloc (.cells #[.slice ra (row n).length rc] 23)).heap.size rfl ?_; intro g5 c5 w5 hown5 hgrow5 hat5 hlt5; obtain ⟨D5, S5⟩ := S3.out.row2 hNr.out hor.out hrr.out hown5 hgrow5 hat5; have S5 := hid S5; obtain ⟨x0, x1, y0, y1⟩ := cells2m (grown_blk hgrow5 S3.out.df.blk (fun e0 => (S3.out.df.nF _ e0).2.1 rfl)))
          | (refine step_call (by rfl) 30 #[.agg #[.int .i64 (ts.length : Int), .slice sa sn sc, .slice ba bn bc, .slice fa fn fc], .pointer (some ⟨mb, 0, none⟩), .int .i64 (n : Int), .slice pa pn pc] (by go_simp) GRn.out ?_; rintro z w3 ⟨rv, rfl, hres⟩; obtain ⟨F3, tv3, S3, hO3, ho3, hr3⟩ := Sd.out.row1 hrb.out hres; obtain ⟨ra, rc, rfl⟩ := own_shape hO3; refine ⟨_, rfl, ?_⟩; have hal3 := hid (al' w3 (.cells #[.slice ra (row n).length rc] 23)); obtain ⟨d0, d1, f0, f1⟩ := cells2m S3.df.blk; obtain ⟨p0, p1, p2, p3⟩ := hpx.out w3 S3.low; have hNr := hid ((Nums.of_row hO3).keep hal3.out); have hor := hid ho3; have hrr := hid hr3; have S3 := hid (S3.keep hal3.out); obtain ⟨d0', d1', f0', f1'⟩ := cells2m S3.out.df.blk)))
        all_goals
          have hall : Hid (∃ (F D : Nat → Prop) (tv : Value) (vs' : List Value), BldS mm mb mm db w.heap.size W2 (w5.setCell ⟨db, 0, none⟩ (.slice (some ⟨g5, 0, none⟩) (vs.length + 1) c5)) F D tv (.slice (some ⟨g5, 0, none⟩) (vs.length + 1) c5) (.slice aa (acc n).length ac) (.slice pa pn pc) vs' (mets (n + 1)) PS (nxt (n + 1)) (acc n)) := hid ⟨_, _, _, _, by rw [hnS.out]; exact S5.out⟩
          generalize w5.setCell ⟨db, 0, none⟩ (.slice (some ⟨g5, 0, none⟩) (vs.length + 1) c5) = W5 at hall ⊢
          generalize Value.slice (some ⟨g5, 0, none⟩) (vs.length + 1) c5 = nv5 at hall ⊢
          generalize w3.heap.size = g3
          generalize Value.slice ra (row n).length rc = rv3
          revert hall
          revert W5 nv5 g3 rv3
          exact rest.out
      case pf =>
        intro W5 nv5 g3 rv3 hall
        obtain ⟨F5, D5, tv5, vs5, S5⟩ := hall.out
        have S5 := hid S5
        clear hall a0 a1 a2 a3 b0 b1 g0' g1' m0 m1
        have hd5 : Below W5.heap.size W5 W5.drew := (Below.refl _ _).drew
        have Sd := hid (S5.out.keep hd5)
        clear hd5
        obtain ⟨a0, a1, a2, a3⟩ := hpx.out W5.drew Sd.out.low
        obtain ⟨b0, b1, g0', g1'⟩ := cells2m Sd.out.df.blk
        obtain ⟨tg, tc5, rfl, htb, htl, htc⟩ := ownStr_at Sd.out.me.row hat1.out
        obtain ⟨m0, m1, -⟩ := cells2m Sd.out.me.blk
        have hnl1 : n < (mets (n + 1)).length := by
          rcases Nat.lt_or_ge n (mets (n + 1)).length with h | h
          · exact h
          · have := hat1.out
            rw [List.getElem?_eq_none h] at this
            cases this
        have hnz1 : (n : Int) < ((mets (n + 1)).length : Int) := by omega
        have hcells : Hid (∀ u, Below W5.drew.heap.size W5.drew u → BldS mm mb mm db w.heap.size W2 u F5 D5 (.slice (some ⟨tg, 0, none⟩) (mets (n + 1)).length tc5) nv5 (.slice aa (acc n).length ac) (.slice pa pn pc) vs5 (mets (n + 1)) PS (nxt (n + 1)) (acc n) ∧ u.cell? ⟨tg, n, none⟩ = some (.string (strT (T n)))) := hid (fun u hu => ⟨Sd.out.keep hu, keep_cell hu htc⟩)
        generalize hnl2 : (mets (n + 1)).length = nl at *
        have hnl2 := hid hnl2
        have hsnA : Hid (∀ (w4 : World) (g4 c4 : Nat), w4.ownsRow mm 3 1 (.slice (some ⟨g4, 0, none⟩) ((acc n).length + 1) c4) ((acc n).length + 1) (numCells (acc n) ++ [.int .i64 (an n)]) → Own w4 mm (.slice (some ⟨g4, 0, none⟩) ((acc n).length + 1) c4) (acc (n + 1))) := hid (fun w4 g4 c4 h => by
          have e1 : (acc n ++ [an n]).length = (acc n).length + 1 := List.length_append
          unfold Own
          rw [haS.out, e1, numCells_snoc]
          exact h)
        go_wp2_with fail
        apply collapse
        case h =>
          intro rest
          go_region_law ((first
            | (refine step_append_lies _ (by rfl) (.tmp 46) (.tmp 54) 23 (by rfl) mm 3 i0 (.int .i64 0) 1 8 Tryz.underlying23 hi0 z00 z01 z02 rfl (by decide) (.slice aa (acc n).length ac) (acc n).length (numCells (acc n)) (by rfl) S6.out.df.acc ⟨w6.heap.size, 0, none⟩ 1 1 [.int .i64 (an n)] (by rfl) (by rfl) (World.news_of_block (heap_new w6 (.cells #[.int .i64 (an n)] 3))) (by simp [Value.oneCell']) (by omega) (by (unfold maxLen); omega) (by omega) S6.out.df.size (w6.alloc (.cells #[.int .i64 (an n)] 3)).heap.size rfl ?_; intro g7 c7 w7' hown7 hgrow7 hat7 hlt7; obtain ⟨D7, S7⟩ := S6.out.acc2 (hsnA.out _ _ _ hown7) hgrow7 hat7; have S7 := hid S7; obtain ⟨x0, x1, y0, y1⟩ := cells2m (grown_blk hgrow7 S6.out.df.blk (fun e0 => (S6.out.df.aF _ e0).2 rfl)))
            | (refine step_call (by rfl) 31 #[.agg #[.int .i64 (ts.length : Int), .slice sa sn sc, .slice ba bn bc, .slice fa fn fc], .string (strT (T n))] (by go_simp) (GAn.out _) ?_; rintro z w6 ⟨rfl, hb6⟩; refine ⟨_, rfl, ?_⟩; obtain ⟨S6, t6⟩ := hcells.out w6 hb6; obtain ⟨d0, d1, f0, f1⟩ := cells2m S6.df.blk; obtain ⟨v0, v1, -⟩ := cells2m S6.me.blk; obtain ⟨p0, p1, p2, p3⟩ := hpx.out w6 S6.low; have S6 := hid (S6.keep (al' w6 (.cells #[.int .i64 (an n)] 3))); obtain ⟨d0', d1', f0', f1'⟩ := cells2m S6.out.df.blk)))
          all_goals
            have hall : Hid (∃ (F D : Nat → Prop) (nv : Value) (vs' : List Value), BldS mm mb mm db w.heap.size W2 (w7'.setCell ⟨db, 1, none⟩ (.slice (some ⟨g7, 0, none⟩) ((acc n).length + 1) c7)) F D (.slice (some ⟨tg, 0, none⟩) nl tc5) nv (.slice (some ⟨g7, 0, none⟩) ((acc n).length + 1) c7) (.slice pa pn pc) vs' (mets (n + 1)) PS (nxt (n + 1)) (acc (n + 1))) := hid ⟨_, _, _, _, S7.out⟩
            generalize w7'.setCell ⟨db, 1, none⟩ (.slice (some ⟨g7, 0, none⟩) ((acc n).length + 1) c7) = W7 at hall ⊢
            generalize Value.slice (some ⟨g7, 0, none⟩) ((acc n).length + 1) c7 = av7 at hall ⊢
            generalize w6.heap.size = g6
            revert hall
            revert W7 av7 g6
            exact rest.out
        case pf =>
          intro W7 av7 g6 hall
          obtain ⟨F7, D7, nv7, vs7, S7⟩ := hall.out
          have S7 := hid S7
          clear a0 a1 a2 a3 b0 b1 g0' g1' m0 m1 htc
          obtain ⟨m0, m1, -⟩ := cells2m S7.out.me.blk
          have hon' : Hid (∀ j, j < n + 1 → j < (mets j).length) := hid (fun j hj => by
            by_cases e : j = n
            · rw [e, hml]; exact hlt
            · exact hon.out j (by omega))
          by_cases h240 : nl ≤ 240
          · have h240z : ¬ (240 : Int) < (nl : Int) := by omega
            have hfew' : Hid (∀ j, j ≤ n + 1 → (mets j).length ≤ 240) := hid (fun j hj => by
              by_cases e : j = n + 1
              · rw [e, hnl2.out]; exact h240
              · exact hfew.out j (by omega))
            have hn1 : n + 1 ≤ 240 := by omega
            have hSn : Hid (∃ (F D : Nat → Prop) (tv nv av : Value) (vs : List Value), BldS mm mb mm db w.heap.size W2 W7 F D tv nv av (.slice pa pn pc) vs (mets (n + 1)) PS (nxt (n + 1)) (acc (n + 1))) := hid ⟨_, _, _, _, _, _, S7.out⟩
            go_wp2
            go_roundw
            case rel => exact ⟨n + 1, hn1, by go_num, hSn, hon', hfew'⟩
            case measure => simp [intOf]; omega
          · have h240z : (240 : Int) < (nl : Int) := by omega
            have hz7 := hzr.out W7 S7.out.low
            obtain ⟨x0, x1, y0, y1⟩ := cells2m hz7
            have hfb : ((W7.setCell ⟨w.heap.size, 0, none⟩ (.slice none 0 0)).setCell ⟨w.heap.size, 1, none⟩ (.slice none 0 0)).heap[w.heap.size]? = some (.cells #[.slice none 0 0, .slice none 0 0] 25 (0, 0)) := heap_setCell (heap_setCell hz7)
            obtain ⟨r0, r1, -⟩ := cells2m hfb
            have hend : Hid (BldR ts ((W7.setCell ⟨w.heap.size, 0, none⟩ (.slice none 0 0)).setCell ⟨w.heap.size, 1, none⟩ (.slice none 0 0)) (.slice none 0 0) (.slice none 0 0) 3 ∧ Below w.heap.size w ((W7.setCell ⟨w.heap.size, 0, none⟩ (.slice none 0 0)).setCell ⟨w.heap.size, 1, none⟩ (.slice none 0 0))) := hid (by
              obtain ⟨all, hAll, hl, _, _⟩ := hfin.out
              refine ⟨⟨all, hAll, Or.inr ⟨rfl, rfl, rfl, n, fun j hj => ?_, ?_⟩⟩, bl_set (bl_set (hWw.out _ S7.out.low) _ _ _ (Nat.le_refl _)) _ _ _ (Nat.le_refl _)⟩
              · rw [← hl j]
                exact ⟨hon'.out j (by omega), hfew.out j hj⟩
              · rw [← hl (n + 1), hnl2.out]
                omega)
            clear hz7 hfb
            go_wp2
            exact bodyPost_ret (v := .tuple #[.agg #[.slice none 0 0, .slice none 0 0], .int .i64 3]) (by simp [results, Tryz.results17, go_sem, r0, r1]) rfl ⟨_, _, _, rfl, hend.out.1, hend.out.2⟩
    · have hltz : ¬ (n : Int) < ((mets n).length : Int) := by omega
      have hfn : (mets n).length = n := by
        have := hlast.out n hlen240 hon.out
        omega
      have hfn := hid hfn
      have hz7 := hzr.out wr hS.out.low
      obtain ⟨x0, x1, y0, y1⟩ := cells2m hz7
      obtain ⟨b0, b1, -⟩ := cells2m hS.out.df.blk
      have hfb : ((wr.setCell ⟨w.heap.size, 0, none⟩ (.slice na vs.length nc)).setCell ⟨w.heap.size, 1, none⟩ (.slice aa (acc n).length ac)).heap[w.heap.size]? = some (.cells #[.slice na vs.length nc, .slice aa (acc n).length ac] 25 (0, 0)) := heap_setCell (heap_setCell hz7)
      obtain ⟨r0, r1, -⟩ := cells2m hfb
      have hdbr : db ≠ w.heap.size := by
        have := hS.out.dF _ hS.out.df.inD
        have := hrb.out
        omega
      have hkf : Hid (Kept (oneBlk w.heap.size) wr ((wr.setCell ⟨w.heap.size, 0, none⟩ (.slice na vs.length nc)).setCell ⟨w.heap.size, 1, none⟩ (.slice aa (acc n).length ac))) := hid (((Kept.refl (oneBlk w.heap.size) wr).setCell (a := ⟨w.heap.size, 0, none⟩) (v := .slice na vs.length nc) (fun _ => rfl)).setCell (a := ⟨w.heap.size, 1, none⟩) (v := .slice aa (acc n).length ac) (fun _ => rfl))
      have hend : Hid (∀ u, Kept (oneBlk w.heap.size) wr u → BldR ts u (.slice na vs.length nc) (.slice aa (acc n).length ac) 0 ∧ Below w.heap.size w u) := hid (fun u hu => by
        obtain ⟨all, hAll, hl, e1, e2⟩ := hfin.out
        have hD : ∀ k, D k → ¬ oneBlk w.heap.size k := fun k hk e0 => by
          have e1 : k = w.heap.size := e0
          have := hS.out.dF k hk
          have := hrb.out
          omega
        have hN : NumsF (oneBlk w.heap.size) wr vs (nxt n) := ⟨hS.out.df.nums.1, fun j => ⟨(hS.out.df.nums.2 j).1, hS.out.offR j⟩⟩
        refine ⟨⟨all, hAll, Or.inl ⟨rfl, n, ⟨fun j hj => ?_, fun j hj => ?_, ?_⟩, ?_, ?_⟩⟩, (hWw.out _ hS.out.low).trans (hu.below (fun k e0 => ?_) (hWw.out _ hS.out.low).size)⟩
        · rw [← hl j]; exact hon.out j hj
        · rw [← hl j]; exact hfew.out j hj
        · rw [← hl n]; exact hfn.out
        · rw [← e1]
          exact numss_of (F := oneBlk w.heap.size) (own_kept hS.out.df.nxt hu (fun k e0 => hD k (hS.out.df.nF k e0).1)) (hN.kept hu)
        · rw [← e2]
          exact Nums.of_row (own_kept hS.out.df.acc hu (fun k e0 => hD k (hS.out.df.aF k e0).1))
        · have e1 : k = w.heap.size := e0
          omega)
      clear hz7 hfb
      go_wp2
      obtain ⟨E1, E2⟩ := hend.out _ hkf.out
      exact bodyPost_ret (v := .tuple #[.agg #[.slice na vs.length nc, .slice aa (acc n).length ac], .int .i64 0]) (by simp [results, Tryz.results17, go_sem, r0, r1]) rfl ⟨_, _, _, rfl, E1, E2⟩

end Go.Proofs.YtonlcnmlklaicaaGreatDoor
namespace Go.Proofs.YtonlcnmlklaicaaGreatDoor
open Go.RowKit

end Go.Proofs.YtonlcnmlklaicaaGreatDoor
namespace Go.Proofs.YtonlcnmlklaicaaGreatDoor
open Go.RowKit

set_option maxRecDepth 20000 in
set_option maxHeartbeats 2000000 in
theorem readOkF (s : Txt) (t : Rx) (w : World) (hs : s.length ≤ 200) (hr : rowsP s = some (t, [])) :
    Calls Tryz.prog 48 #[.string (strT s)] w fun e w' => ∃ v, e = .returned (.tuple #[v, .int .i64 0, .int .i64 0]) ∧ (Cels w' v (post t) ∧ Off (fun k => k < w.heap.size) v) ∧ Below w.heap.size w w' := by
  have hmf : ∀ (fn : Fn) (first cap : Array Value) (w : World), (Instr.makeFunc fn first cap).run Tryz.prog w = .ok (.func fn first cap) w := fun _ _ _ _ => rfl
  have G := rowsC (M := 400) (readW_rd w s) hs (by simp; omega) (by omega)
  rw [hr] at G
  have G := hid G
  obtain ⟨h0, h1, h2, h3⟩ := four_blocks w (.cells #[.slice none 0 0] 48) (.cells #[.int .i64 0] 3) (.cells #[.int .i64 0] 29) (.cells #[.string (strT s), .int .i64 0, .slice none 0 0] 123)
  have hsz : (readW w s).heap.size = w.heap.size + 4 := by simp [readW]
  have hpl : plc s [] = (s.length : Int) := by simp [plc]
  have hS := strT_size s
  have HE : Hid (∀ w1, Red (some (t, [])) (readW w s) (w.heap.size + 3) s [] 400 (.returned (.tuple #[])) w1 → ∃ ad cap, (w1.cell? ⟨w.heap.size + 3, 1, none⟩ = some (.int .i64 (s.length : Int)) ∧ w1.cell? ⟨w.heap.size + 3, 2, none⟩ = some (.slice ad (post t).length cap) ∧ w1.heap[w.heap.size]? = some (.cells #[.slice none 0 0] 48 (0, 0)) ∧ w1.heap[w.heap.size + 1]? = some (.cells #[.int .i64 0] 3 (0, 0)) ∧ w1.heap[w.heap.size + 2]? = some (.cells #[.int .i64 0] 29 (0, 0))) ∧ (∀ c ∈ post t, FitC c) ∧ OwnC w1 (w.heap.size + 3) (.slice ad (post t).length cap) (post t) ∧ Below w.heap.size w w1) := hid (fun w1 hw => by
    obtain ⟨-, hrd, -, hb⟩ := hw.yes
    have hp := hrd.place
    rw [hpl] at hp
    obtain ⟨v, hat, ho, hf⟩ := hrd
    obtain ⟨k, hbk⟩ := hat.blk
    have hC := Cels.of_own (l := post t) ho hf
    obtain ⟨ad, cap, rfl⟩ : ∃ ad cap, v = .slice ad (post t).length cap := by obtain ⟨a, c, e, _⟩ := hC; exact ⟨a, c, e⟩
    refine ⟨ad, cap, ⟨hp, (rd3 hbk).2.2.1, (hb.block _ (by omega)).trans h0, (hb.block _ (by omega)).trans h1, (hb.block _ (by omega)).trans h2⟩, hf, ho, ?_⟩
    exact (readW_below w s).trans (hb.mono (by omega)))
  unfold readW at G HE
  generalize strT s = S at G HE hS
  clear h0 h1 h2 h3 hsz hpl hr
  go_enter_defers Tryz.func48, Tryz.ntmps48
  go_wp2_with (go_at_call 64; refine G.out.mono ?_; intro e w1 hw1; obtain ⟨he1, -, -, -⟩ := hw1.yes; subst he1; obtain ⟨ad, cap, ⟨c1, c2, k0, k1, k2⟩, hC, hO, hb⟩ := HE.out w1 hw1; have hC := hid hC; have hO := hid hO; have d0 := blk_cell (o := 0) (v := .slice none 0 0) k0 rfl; have d1 := blk_cell (o := 0) (v := .int .i64 0) k1 rfl; have d2 := blk_cell (o := 0) (v := .int .i64 0) k2 rfl; have f0 := blk_frozen k0 0; have f1 := blk_frozen k1 0; have f2 := blk_frozen k2 0; clear k0 k1 k2)
  refine leaves_cons (f := 63) (args := #[.pointer (some ⟨w.heap.size, 0, none⟩), .pointer (some ⟨w.heap.size + 1, 0, none⟩), .pointer (some ⟨w.heap.size + 2, 0, none⟩)]) (by simp) (by simp [go_sem]) ?_
  refine (catch_idle _ _ _ _).mono ?_
  rintro e u' w'' ⟨rfl, rfl, rfl⟩
  have hO' : OwnC (((w1.setCell ⟨w.heap.size, 0, none⟩ (.slice ad (post t).length cap)).setCell ⟨w.heap.size + 1, 0, none⟩ (.int .i64 0)).setCell ⟨w.heap.size + 2, 0, none⟩ (.int .i64 0)) (w.heap.size + 3) (.slice ad (post t).length cap) (post t) := own_keep hO.out fun k hk => by
    have := (hO.out.lt k hk).1
    rw [Below.heap_setCell _ _ _ _ (by simp; omega), Below.heap_setCell _ _ _ _ (by simp; omega), Below.heap_setCell _ _ _ _ (by simp; omega)]
  refine ⟨.tuple #[.slice ad (post t).length cap, .int .i64 0, .int .i64 0], by simp [results, Tryz.results48, go_sem, d0, d1, d2], _, rfl, ⟨Cels.of_own (l := post t) hO' hC.out, off_row hO' (fun k hk => by omega)⟩, ?_⟩
  exact bl_set (bl_set (bl_set hb _ 0 _ (Nat.le_refl _)) _ 0 _ (by omega)) _ 0 _ (by omega)
set_option maxRecDepth 20000 in
theorem parseGoodF (s : Txt) (t : Rx) (w : World) (hs : s.length ≤ 200) (hr : rowsP s = some (t, [])) (hl : (post t).length ≤ 60) : Calls Tryz.prog 33 #[.string (strT s)] w fun e w' => ∃ v, e = .returned (.tuple #[v, .int .i64 0, .int .i64 0]) ∧ (Cels w' v (post t) ∧ Off (fun k => k < w.heap.size) v) ∧ Below w.heap.size w w' := by
  have G0 := readOkF s t w hs hr
  have hS := strT_size s
  have hz : ¬ (200 : Int) < ((strT s).size : Int) := by omega
  have hzz : (strT s).size ≤ 200 := by omega
  have G : Hid (Calls Tryz.prog 48 #[.string (strT s)] w fun e w' => ∃ a c, e = .returned (.tuple #[.slice a (post t).length c, .int .i64 0, .int .i64 0]) ∧ Hid (Cels w' (.slice a (post t).length c) (post t) ∧ Off (fun k => k < w.heap.size) (.slice a (post t).length c)) ∧ Below w.heap.size w w') := hid (G0.mono fun e w' ⟨v, he, hc, hb⟩ => by
    have hc' := hc
    obtain ⟨⟨a, c, hv, _⟩, _⟩ := hc
    subst hv
    exact ⟨a, c, he, hid hc', hb⟩)
  generalize strT s = S at hS hz G hzz
  have hlz : ¬ (60 : Int) < ((post t).length : Int) := by omega
  clear hr hS G0
  go_enter Tryz.func33, Tryz.ntmps33
  go_wp2_with (go_at_call 48; refine G.out.mono ?_; rintro e w1 ⟨a, c, rfl, hC, hb⟩)
  refine bodyPost_ret (v := .tuple #[.slice a (post t).length c, .int .i64 0, .int .i64 0]) (by simp [results, Tryz.results33, go_sem]) rfl ⟨_, rfl, hC.out, hb⟩

end Go.Proofs.YtonlcnmlklaicaaGreatDoor
namespace Go.Proofs.YtonlcnmlklaicaaGreatDoor
open Go.RowKit

/-- a state as the program counts: nowhere is -1 -/
def inI (n i : Nat) : Int := if n ≤ i then -1 else (i : Int)
theorem inI_none (n : Nat) : inI n n = -1 := by unfold inI; rw [if_pos (Nat.le_refl _)]
theorem inI_some {n i : Nat} (h : i < n) : inI n i = (i : Int) := by unfold inI; rw [if_neg (by omega)]
/-- an automaton in memory -/
structure Dfa (w : World) (nv av : Value) (N : List (List Int)) (A : List Int) : Prop where
  nxt : Numss w nv N
  acc : Nums w av A
theorem Dfa.keep {w u : World} {nv av : Value} {N : List (List Int)} {A : List Int} (h : Dfa w nv av N A) (hu : Below w.heap.size w u) : Dfa u nv av N A := ⟨h.nxt.keep hu, h.acc.keep hu⟩
theorem Dfa.shape {w : World} {nv av : Value} {N : List (List Int)} {A : List Int} (h : Dfa w nv av N A) : (∃ a c, nv = .slice a N.length c) ∧ ∃ a c, av = .slice a A.length c := by
  obtain ⟨a, c, e, _⟩ := h.nxt
  obtain ⟨a', c', e', _⟩ := h.acc
  exact ⟨⟨a, c, e⟩, ⟨a', c', e'⟩⟩
theorem acA_some {N : List (List Int)} {A : List Int} {i : Nat} (h : i < N.length) : acA N A i = A.getD i 0 := by unfold acA; rw [if_neg (by omega)]
theorem acA_none (N : List (List Int)) (A : List Int) : acA N A N.length = -1 := by unfold acA; rw [if_pos (Nat.le_refl _)]
theorem nxA_some {N : List (List Int)} (hr : RgtN N) {i b : Nat} (h : i < N.length) (hb : b < 256) : inI N.length (nxA N i b) = (N.getD i []).getD b 0 := by
  have h1 := (hr i h).2 b hb
  have e : nxA N i b = if (N.getD i []).getD b 0 < 0 then N.length else ((N.getD i []).getD b 0).toNat := by unfold nxA; rw [if_neg (by omega)]
  rw [e]
  by_cases hy : (N.getD i []).getD b 0 < 0
  · rw [if_pos hy, inI_none]; omega
  · rw [if_neg hy, inI_some (by omega)]; omega
/-- what is accepted is a number of the machine -/
def AccW (A : List Int) : Prop := ∀ j, A.getD j 0 ≤ 9223372036854775807

end Go.Proofs.YtonlcnmlklaicaaGreatDoor
