/- (*dfa.places).add. dfa.placesOf. dfa.placesOf, of right rules. An automaton that is filled, state by state, beside the states that were met. -/
import Derived.Test.YtonlcnmlklaicaaGreatDoorJ28
import Derived.Test.YtonlcnmlklaicaaGreatDoorJ18
import Derived.Test.YtonlcnmlklaicaaGreatDoorJ25
import Derived.BigRegion
namespace Go.Proofs.YtonlcnmlklaicaaGreatDoor
open Go.RowKit

/-- places in memory, wherever their rows lie -/
def PlX (B pb e : Nat) (w : World) (S : List W4) (G : List (List Int)) (f : List Int) : Prop := ∃ F sv bv fv gs, PlO B pb e F w sv bv fv S gs G f
/-- what a rule adds to what is behind its spots: the first k of them -/
def begB (from' end' : Nat) (p : Sp) : Nat → List (List Int)
  | 0 => []
  | k + 1 => begB from' end' p k ++ [movL from' (p.follow.getD k []) ++ (if p.last.contains (k : Int) then [(end' : Int)] else [])]
theorem begB_is (from' end' : Nat) (p : Sp) : ∀ k, begB from' end' p k = (List.range k).map fun j => movL from' (p.follow.getD j []) ++ (if p.last.contains (j : Int) then [(end' : Int)] else [])
  | 0 => rfl
  | k + 1 => by rw [begB, begB_is from' end' p k, List.range_succ, List.map_append]; rfl
theorem kept_lowP {s : Nat} {F : Nat → Prop} {W w u : World} {r : Option Nat} (h : Kept (fun k => k < s) W w) (hg : w.grownBy u r) (hr : ∀ k, r = some k → F k) (hF : ∀ k, F k → k < s ∨ W.heap.size ≤ k) : Kept (fun k => k < s) W u :=
  h.step (Kept.of_grown hg) fun k hk e => by
    rcases hF k (hr k e) with h1 | h1
    · exact h1
    · omega
/-- what is left to be shown, whatever the order in which a region was gone through -/
structure RestOf (R : Prop) : Prop where
  out : R
theorem collapse {R G : Prop} (h : RestOf R → G) (pf : R) : G := h ⟨pf⟩
theorem off_more {F : Nat → Prop} {u : World} {B' : Nat} {v v5 : Value} {l : List Int} (hO : Own u B' v l) (hF : ∀ k, F k → k < B') (hat : ∀ k, v5.ownBlock = some k → F k ∨ u.heap.size ≤ k) : Off (fun k => F k ∨ v5.ownBlock = some k) v := fun ad n c e h0 hf => by
  have hl := hO.lt
  rcases hO.2 with ⟨rfl, _⟩ | ⟨g, cap, cur, rfl, hb, _⟩
  · cases e
  · injection e with e1
    cases e1
    have h1 : B' ≤ g := hb
    have h2 : g < u.heap.size := (hl g rfl).2
    have key : ¬ F g := fun h => by have := hF g h; omega
    rcases hf with h | h
    · exact key h
    · rcases hat g h with h3 | h3
      · exact key h3
      · omega
theorem ownS_snoc {w : World} {B g n cap : Nat} {S : List W4} {a b c d : Nat} (h : w.ownsRow B 65 4 (.slice (some ⟨g, 0, none⟩) (S.length + 1) cap) (S.length + 1) (flatS S ++ [.int .u64 (a : Int), .int .u64 (b : Int), .int .u64 (c : Int), .int .u64 (d : Int)])) (_hn : n = S.length) : OwnS w B (.slice (some ⟨g, 0, none⟩) (S.length + 1) cap) (S ++ [⟨a, b, c, d⟩]) := by
  unfold OwnS
  rw [flatS_app, List.length_append]
  exact h
set_option maxRecDepth 20000 in
theorem Tryz.infoNs : (Tryz.prog.info? 23).map (fun i => (i.zero, i.size, i.bytes)) = some (some (.slice none 0 0), 1, 24) := by kernel_rfl
set_option maxRecDepth 20000 in
set_option maxHeartbeats 8000000 in
theorem addC (B pb e s en : Nat) (F : Nat → Prop) (sv bv fv : Value) (S : List W4) (gs : List Value) (G : List (List Int)) (f : List Int) (p : Sp) (rs rf rl rg : Value) (w : World)
    (h : PlO B pb e F w sv bv fv S gs G f) (hs : s ≤ w.heap.size) (hF : ∀ k, F k → k < s) (hr : SpVF (fun k => k < s) w rs rf rl rg p) (hsm : SmlS p) (hS : S.length ≤ 2000) (hgl : gs.length ≤ 2000) (hfl : f.length ≤ 4000) (_hen : en ≤ 100) :
    Calls Tryz.prog 36 #[.pointer (some ⟨pb, 0, none⟩), .agg #[rs, .bool p.null, rf, rl, rg], .int .i64 (en : Int)] w fun z w' => z = .returned (.tuple #[]) ∧ PlX B pb e w' (S ++ p.sets) (G ++ begB S.length en p p.sets.length) (f ++ (movL S.length p.first ++ (if p.null then [(en : Int)] else []))) ∧ Below B w w' := by
  obtain ⟨rsa, rsc, rfl⟩ : ∃ a c, rs = .slice a p.sets.length c := by obtain ⟨a, c, e, _⟩ := hr.spv.sets; exact ⟨a, c, e⟩
  obtain ⟨rfa, rfc, rfl⟩ : ∃ a c, rf = .slice a p.first.length c := by obtain ⟨a, c, e, _⟩ := hr.spv.first; exact ⟨a, c, e⟩
  obtain ⟨rla, rlc, rfl⟩ : ∃ a c, rl = .slice a p.last.length c := by obtain ⟨a, c, e, _⟩ := hr.spv.last; exact ⟨a, c, e⟩
  obtain ⟨rga, rgc, rfl⟩ : ∃ a c, rg = .slice a p.sets.length c := by obtain ⟨a, c, e, _⟩ := hr.spv.follow; rw [hsm.flen] at e; exact ⟨a, c, e⟩
  obtain ⟨FF, hFF⟩ : ∃ FF : List Int, Hid (FF = f ++ (movL S.length p.first ++ (if p.null then [(en : Int)] else []))) := ⟨_, hid rfl⟩
  rw [← hFF.out]
  obtain ⟨sa, sc, rfl⟩ := own_shape h.sets
  obtain ⟨ba, bc, rfl⟩ := own_shape h.beh
  obtain ⟨fa, fc, rfl⟩ := own_shape h.fir
  obtain ⟨W0, hW0⟩ : ∃ W0, W0 = w.alloc (.cells #[.slice rsa p.sets.length rsc, .bool p.null, .slice rfa p.first.length rfc, .slice rla p.last.length rlc, .slice rga p.sets.length rgc] 88) := ⟨_, rfl⟩
  have hb0 : Hid (Below w.heap.size w W0) := by rw [hW0]; exact hid (al' w _)
  have hq0 : Hid (W0.heap[w.heap.size]? = some (.cells #[.slice rsa p.sets.length rsc, .bool p.null, .slice rfa p.first.length rfc, .slice rla p.last.length rlc, .slice rga p.sets.length rgc] 88)) := by rw [hW0]; exact hid (heap_new w _)
  have hs0 : Hid (W0.heap.size = w.heap.size + 1) := by rw [hW0]; exact hid (by simp)
  have h0 := hid (h.keep hb0.out)
  have hr0 := hid (hr.keep hb0.out)
  have hBw := h.size
  obtain ⟨c0, c1, c2, c3, f0, f1, f2, f3⟩ := cells4p h.blk
  have hpw := blk_lt h.blk
  have hpn : pb ≠ w.heap.size := by omega
  have hrb : Hid (∀ u, Kept (fun k => k < s) W0 u → u.heap[w.heap.size]? = some (.cells #[.slice rsa p.sets.length rsc, .bool p.null, .slice rfa p.first.length rfc, .slice rla p.last.length rlc, .slice rga p.sets.length rgc] 88)) := hid (fun u hu => hu.blk hq0.out (fun hh => absurd hs (Nat.not_le.2 hh)))
  have GM := hid (fun v l u (h1 : l.length ≤ 100000) (h2 : ∀ x ∈ l, 0 ≤ x ∧ x < 1000000) (h3 : Nums u v l) => movedC S.length v l u (by omega) h1 h2 h3)
  have hsm' := hid hsm
  have hF0 := hid hF
  have hfi := hsm.first
  have hse := hsm.sets
  have hsmF : Hid (∀ x ∈ p.first, 0 ≤ x ∧ x < 1000000) := hid (fun x hx => by have := hsm.firstIn x hx; omega)
  have hfol := hid hsm.flen
  clear h hr hsm hF
  go_enter Tryz.func36, Tryz.ntmps36
  go_wp2_with fail
  rw [← hW0]
  clear hW0 c0 c1 c2 c3 f0 f1 f2 f3
  have hW0d : Below W0.heap.size W0 W0.drew := (Below.refl _ _).drew
  obtain ⟨c0, c1, c2, c3, f0, f1, f2, f3⟩ := cells4p (h0.out.keep hW0d).blk
  obtain ⟨r0, r1, r2, r3, r4, -⟩ := cells5s (hs_keep hq0.out hW0d)
  have hW0d := hid hW0d
  have GM1 := hid (GM.out _ p.first W0.drew (by omega) hsmF.out (hr0.out.spv.first.keep hW0d.out))
  have hml : (movL S.length p.first).length ≤ 60 := by rw [movL_len]; exact hfi
  apply collapse
  case h =>
    intro rest
    go_region_law ((first
      | (refine step_appN (by rfl) (.tmp 19) (.tmp 23) (by rfl) B f (movL S.length p.first) _ _ (by rfl) (by rfl) M1.out.fir (Nums.of_row hO1.out) (fun hh => (hz1.out hh)) (by omega) M1.out.size ?_; intro av c w2 hO2 hg2 hat2; have M2 := hid (M1.out.addFirst hO2 hg2 hat2); obtain ⟨x0, x1, x2, x3, y0, y1, y2, y3⟩ := cells4p (grown_blk hg2 M1.out.blk (fun e0 => (M1.out.fF _ e0).2 rfl)); have hk2 := hid (kept_lowP hk1.out hg2 (fun k e0 => (M1.out.fF k e0).1) hF1.out); have hB2 := hid (bgrow hB1.out hg2 M1.out.size (fun k e0 => (M1.out.fir.lt k e0).1)); have hF2 : Hid (∀ k, (F k ∨ (Value.slice av (f.length + (movL S.length p.first).length) c).ownBlock = some k) → k < s ∨ W0.heap.size ≤ k) := hid (fun k hk => hk.elim (hF1.out k) (fun h1 => (hat2 k h1).elim (fun h2 => hF1.out k (M1.out.fF k h2).1) (fun h2 => Or.inr (Nat.le_trans hb1'.out.size h2)))))
      | (refine step_call (by rfl) 55 #[.slice rfa p.first.length rfc, .int .i64 (S.length : Int)] (by go_simp) GM1.out ?_; rintro z w1 ⟨v1, rfl, hO1, hb1, hz1⟩; refine ⟨_, rfl, ?_⟩; have hO1 := hid hO1; have hz1 := hid (fun (hh : movL S.length p.first = []) => (hz1 (by simpa [movL] using hh)).1); have hb1' := hid (bl_step hW0d.out hb1); have M1 := hid (h0.out.keep hb1'.out); have hk1 : Hid (Kept (fun k => k < s) W0 w1) := hid (Kept.of_below hb1'.out); have hF1 : Hid (∀ k, F k → k < s ∨ W0.heap.size ≤ k) := hid (fun k hk => Or.inl (hF0.out k hk)); have hB1 := hid ((hb0.out.mono hBw).trans (hb1'.out.mono (by have := hs0.out; omega))); obtain ⟨d0, d1, d2, d3, -⟩ := cells4p M1.out.blk; obtain ⟨q0, q1, q2, q3, q4, -⟩ := cells5s (hs_keep hq0.out hb1'.out))))
    all_goals
      have hk3 : Hid (Kept (fun k => k < s) W0 (w2.setCell ⟨pb, 3, none⟩ (.slice av (f.length + (movL S.length p.first).length) c))) := hid (hk2.out.setCell (fun _ => hF0.out _ h0.out.inF))
      have hB3 := hid (bl_set hB2.out pb 3 (.slice av (f.length + (movL S.length p.first).length) c) h0.out.base)
      have M3 := hid M2.out
      have hfl3 : (f ++ movL S.length p.first).length ≤ 4100 := by rw [List.length_append]; omega
      have hlen3 : Hid (f.length + (movL S.length p.first).length = (f ++ movL S.length p.first).length) := hid (by rw [List.length_append])
      obtain ⟨fv3, hfv3⟩ : ∃ v, v = Value.slice av (f.length + (movL S.length p.first).length) c := ⟨_, rfl⟩
      rw [← hfv3] at hk3 hB3 M3 hF2 ⊢
      clear hfv3 M2 hk2 hB2 hO2 hg2 hat2 hO1 hz1 hb1 M1 hk1 hF1 hB1 x0 x1 x2 x3 y0 y1 y2 y3 d0 d1 d2 d3 q0 q1 q2 q3 q4 hb1'
      generalize w2.setCell ⟨pb, 3, none⟩ fv3 = W3 at hk3 hB3 M3 ⊢
      obtain ⟨F3, hF3⟩ : ∃ F3, F3 = (fun k => F k ∨ fv3.ownBlock = some k) := ⟨_, rfl⟩
      rw [← hF3] at M3
      have hF4 : Hid (∀ k, F3 k → k < s ∨ W0.heap.size ≤ k) := hid (fun k hk => hF2.out k (by rw [hF3] at hk; exact hk))
      clear hF3 hF2
      generalize v1 = vv
      revert M3 hk3 hB3 hF4
      revert F3 W3 fv3 vv
      exact rest.out
  case pf =>
    intro fv3 W3 F3 v1 hk3 hB3 M3 hF2
    clear c0 c1 c2 c3 f0 f1 f2 f3 r0 r1 r2 r3 r4
    have hfl3 : (f ++ movL S.length p.first).length ≤ 4100 := by rw [List.length_append]; omega
    generalize hmlq : movL S.length p.first = ml at *
    clear hmlq
    obtain ⟨R0, R1, R2, R3, R4, -⟩ := cells5s (hrb.out W3 hk3.out)
    obtain ⟨iS, hiS, zS0, zS1, zS2⟩ := info_parts Tryz.infoS4
    obtain ⟨iN, hiN, zN0, zN1, zN2⟩ := info_parts Tryz.infoNs
    obtain ⟨i0, hi0, z00, z01, z02⟩ := info_parts Tryz.info3
    cases hnu : p.null with
    | false =>
      rw [hnu] at R1
      have hkX := hk3
      have hBX := hB3
      have hFX := hF2
      have MX : Hid (PlO B pb e _ W3 _ _ fv3 S gs G FF) := hid (by rw [hFF.out, hnu, if_neg Bool.false_ne_true, List.append_nil]; exact M3.out)
      clear R0 R2 R3 R4

      obtain ⟨R0, R1, R2, R3, R4, -⟩ := cells5s (hrb.out W3 hkX.out)
      have hglG := hid MX.out.nums.1
      go_wp2_with fail
      go_loopw [42] (fun i wr => ∃ (k : Nat) (F' : Nat → Prop) (sv' bv' : Value) (gs' : List Value), k ≤ p.sets.length ∧ i = .int .i64 k ∧ Hid (PlO B pb e F' wr sv' bv' fv3 (S ++ p.sets.take k) gs' (G ++ begB S.length en p k) FF) ∧ Hid (∀ k, F' k → k < s ∨ W0.heap.size ≤ k) ∧ Hid (Kept (fun k => k < s) W0 wr) ∧ Below B w wr) (fun i _ => p.sets.length - (intOf i).toNat)
      case atStart => exact ⟨0, _, _, _, _, Nat.zero_le _, rfl, hid (by rw [List.take_zero, List.append_nil, begB, List.append_nil]; exact MX.out), hFX, hkX, hBX.out⟩
      case round =>
        obtain ⟨k, F', sv', bv', gs', hk, rfl, hM, hFr, hkr, hbl⟩ := hrel
        by_cases hlt : k < p.sets.length
        · have hltz : (k : Int) < (p.sets.length : Int) := by omega
          have hsp := hr0.out.kept hkr.out
          have hbox := hid (hrb.out wr hkr.out)
          have hws : w.heap.size < wr.heap.size := by have := hs0.out; have := hkr.out.size; omega
          have hwn : w.heap.size ≠ wr.heap.size := by omega
          obtain ⟨Q0, Q1, Q2, Q3, Q4, -⟩ := cells5s hbox.out
          obtain ⟨sa1, sc1, es, hsat⟩ := sets_at hsp.sets
          injection es with es1 es2 es3
          obtain ⟨b1, o1, hsa1, hb1, hfit, h4⟩ := hsat k hlt
          rw [hsa1] at es1
          obtain ⟨ga1, gc1, eg, hgat⟩ := numss_at hsp.follow
          injection eg with eg1 eg2 eg3
          obtain ⟨b2, o2, x, hga1, hb2, hx, hNx⟩ := hgat k (by rw [hfol.out]; exact hlt)
          rw [hga1] at eg1
          have hNl := hsp.last
          have hfk := (hsm'.out).fol k
          have hll := hsm'.out.last
          have htk : Hid (p.sets.take (k + 1) = p.sets.take k ++ [p.sets.getD k noneB]) := hid (by rw [List.take_succ_eq_append_getElem hlt, List.getD_eq_getElem?_getD, List.getElem?_eq_getElem hlt]; rfl)
          have hbg : Hid (begB S.length en p (k + 1) = begB S.length en p k ++ [movL S.length (p.follow.getD k []) ++ (if p.last.contains (k : Int) then [(en : Int)] else [])]) := hid rfl
          generalize p.sets.getD k noneB = Z at h4 hfit htk
          obtain ⟨za, zb, zc, zd⟩ := Z
          obtain ⟨u0, u1, u2, u3⟩ := h4
          simp only at u0 u1 u2 u3
          have hal := hid (al' wr (.cells #[.int .u64 (za : Int), .int .u64 (zb : Int), .int .u64 (zc : Int), .int .u64 (zd : Int)] 65))
          have hzb := hid (heap_new wr (.cells #[.int .u64 (za : Int), .int .u64 (zb : Int), .int .u64 (zc : Int), .int .u64 (zd : Int)] 65))
          have GMk := hid (GM.out x _ (wr.alloc (.cells #[.int .u64 (za : Int), .int .u64 (zb : Int), .int .u64 (zc : Int), .int .u64 (zd : Int)] 65)) (by have := hfk.1; omega) (fun y hy => by have := hfk.2 y hy; omega) (hNx.keep hal.out))
          have GHk := hid (fun u (hu : Below wr.heap.size wr u) => setsHas _ p.last (k : Int) u (by omega) (hNl.keep hu))
          have hmk60 : (movL S.length (p.follow.getD k [])).length ≤ 60 := by rw [movL_len]; exact hfk.1
          generalize p.last.contains (k : Int) = lt at GHk hbg
          generalize movL S.length (p.follow.getD k []) = mk at GMk hbg hmk60
          have hgl2 : Hid (gs'.length = G.length + k) := hid (by rw [hM.out.nums.1, List.length_append, begB_is, List.length_map, List.length_range])
          have hGl : G.length ≤ 2000 := by have := hglG.out; omega
          have hFb : Hid (∀ k, F' k → k < (wr.alloc (.cells #[.int .u64 (za : Int), .int .u64 (zb : Int), .int .u64 (zc : Int), .int .u64 (zd : Int)] 65)).heap.size) := hid (fun k hk => by have := hM.out.lt k hk; simp; omega)
          obtain ⟨sa', sc', rfl⟩ := own_shape hM.out.sets
          obtain ⟨ba', bc', rfl⟩ := own_shape hM.out.beh
          subst es1 eg1
          clear hsat hgat hNx hNl hsp hfit hsa1 hga1 es2 es3 eg2 eg3 hfk
          cases lt with
          | false =>
            go_wp2_with (first
              | (go_at_call 55; refine GMk.out.mono ?_; rintro z w7 ⟨v7, rfl, hO2, hUz, -⟩; have hUb := hUz; obtain ⟨T0, T1, T2, T3, T4, -⟩ := cells5s (hs_keep hbox.out (bl_step hal.out hUz)))
              | (go_at_call 56; refine (GHk.out w7 (bl_step hal.out hUz)).mono ?_; rintro z u7 ⟨rfl, hu7⟩; subst u7))
            have hbg' : Hid (begB S.length en p (k + 1) = begB S.length en p k ++ [mk]) := hid (by rw [hbg.out, if_neg Bool.false_ne_true, List.append_nil])
            obtain ⟨va, vc, rfl⟩ := own_shape hO2
            -- one set more, one list more
            have hO2 := hid hO2
            have hUb := hid (bl_step hal.out hUz)
            have Mu := hid (hM.out.keep hUb.out)
            have hub : Hid (w7.heap[wr.heap.size]? = some (.cells #[.int .u64 (za : Int), .int .u64 (zb : Int), .int .u64 (zc : Int), .int .u64 (zd : Int)] 65)) := hid (hs_keep hzb.out hUz)
            have hUd : Hid (Below w7.heap.size w7 w7.drew) := hid (Below.refl _ _).drew
            have Md := hid (Mu.out.keep hUd.out)
            obtain ⟨c0, c1, c2, c3, f0, f1, f2, f3⟩ := cells4p Md.out.blk
            obtain ⟨z0, z1, z2, z3, -⟩ := cells4p (hs_keep hub.out hUd.out)
            have hUl : Hid (Below w7.heap.size w7 (w7.alloc (.cells #[.int .u64 (za : Int), .int .u64 (zb : Int), .int .u64 (zc : Int), .int .u64 (zd : Int)] 65)).drew) := hid (bl_step (al' w7 (.cells #[.int .u64 (za : Int), .int .u64 (zb : Int), .int .u64 (zc : Int), .int .u64 (zd : Int)] 65)) (Below.refl _ _).drew)
            have Ml := hid (Mu.out.keep hUl.out)
            obtain ⟨l0, l1, l2, l3, m0, m1, m2, m3⟩ := cells4p Ml.out.blk
            have hsl : (S ++ p.sets.take k).length ≤ 2100 := by rw [List.length_append, List.length_take]; omega
            have hgsl : gs'.length ≤ 2100 := by
              have := hgl2.out
              omega
            have hkU : Hid (Kept (fun k => k < s) W0 ((w7.alloc (.cells #[.int .u64 (za : Int), .int .u64 (zb : Int), .int .u64 (zc : Int), .int .u64 (zd : Int)] 65)).drew)) := hid (hkr.out.step (Kept.of_below (bl_step hUb.out hUl.out) (F := noBlk)) (fun _ _ h => h.elim))
            have hBU : Hid (Below B w ((w7.alloc (.cells #[.int .u64 (za : Int), .int .u64 (zb : Int), .int .u64 (zc : Int), .int .u64 (zd : Int)] 65)).drew)) := hid (bstep hbl (bl_step hUb.out hUl.out) hM.out.size)
            have hsizeU : ((w7.alloc (.cells #[.int .u64 (za : Int), .int .u64 (zb : Int), .int .u64 (zc : Int), .int .u64 (zd : Int)] 65)).drew).heap.size = w7.heap.size + 1 := by simp
            generalize hS1 : S ++ p.sets.take k = S1 at *
            go_wp2_with fail
            apply collapse
            case h =>
              intro rest
              go_region_law ((first
                | (refine step_append_lies _ (by rfl) (.tmp 66) (.tmp 68) 68 (by rfl) B 65 iS (.agg #[.int .u64 0, .int .u64 0, .int .u64 0, .int .u64 0]) 4 32 Tryz.underlying68 hiS zS0 zS1 zS2 rfl (by decide) (.slice sa' S1.length sc') S1.length (flatS S1) (by rfl) Ml.out.sets ⟨w7.heap.size, 0, none⟩ 1 1 [.int .u64 (za : Int), .int .u64 (zb : Int), .int .u64 (zc : Int), .int .u64 (zd : Int)] (by rfl) (by rfl) (World.news_of_block (w := (w7.alloc (.cells #[.int .u64 (za : Int), .int .u64 (zb : Int), .int .u64 (zc : Int), .int .u64 (zd : Int)] 65)).drew) (heap_new w7 (.cells #[.int .u64 (za : Int), .int .u64 (zb : Int), .int .u64 (zc : Int), .int .u64 (zd : Int)] 65))) (by simp [Value.oneCell']) (by omega) (by (unfold maxLen); omega) (by omega) Ml.out.size (w7.heap.size + 1) hsizeU ?_; intro g5 c5 w5 hown5 hgrow5 hat5 hlt5; have hat5' : ∀ k, (Value.slice (some ⟨g5, 0, none⟩) (S1.length + 1) c5).ownBlock = some k → (Value.slice sa' S1.length sc').ownBlock = some k ∨ ((w7.alloc (.cells #[.int .u64 (za : Int), .int .u64 (zb : Int), .int .u64 (zc : Int), .int .u64 (zd : Int)] 65)).drew).heap.size ≤ k := (fun k e0 => hat5.elim (fun e1 => Or.inl (e1.trans e0)) (fun e1 => Or.inr (by (have e2 : g5 = k := (by injection e0)); omega))); have M5 := hid (Ml.out.addSet (ownS_snoc hown5 rfl) hgrow5 hat5'); obtain ⟨x0, x1, x2, x3, y0, y1, y2, y3⟩ := cells4p (grown_blk hgrow5 Ml.out.blk (fun e0 => (Ml.out.sF _ e0).2.1 rfl)); have hk5 := hid (kept_lowP hkU.out hgrow5 (fun k e0 => (Ml.out.sF k e0).1) hFr.out); have hB5 := hid (bgrow hBU.out hgrow5 Ml.out.size (fun k e0 => (Ml.out.sets.lt k e0).1)); have hF5 : Hid (∀ k, (F' k ∨ (Value.slice (some ⟨g5, 0, none⟩) (S1.length + 1) c5).ownBlock = some k) → k < s ∨ W0.heap.size ≤ k) := hid (fun k hk => hk.elim (hFr.out k) (fun h1 => (hat5' k h1).elim (fun h2 => hFr.out k (Ml.out.sF k h2).1) (fun h2 => Or.inr (Nat.le_trans hkU.out.size h2)))); have hO5 := hid (own_set (pb := pb) (o := 1) (x := .slice (some ⟨g5, 0, none⟩) (S1.length + 1) c5) (own_kept (own_below hO2.out hUl.out) (Kept.of_grown hgrow5) (fun j e0 e1 => Nat.lt_irrefl _ (Nat.lt_of_lt_of_le (hFb.out j (Ml.out.sF j e1).1) (hO2.out.lt j e0).1))) (fun e0 => Nat.lt_irrefl _ (Nat.lt_of_lt_of_le (hFb.out pb Ml.out.inF) (hO2.out.lt pb e0).1))); have hof5 := hid (off_more (v5 := .slice (some ⟨g5, 0, none⟩) (S1.length + 1) c5) hO2.out hFb.out (fun k h1 => (hat5' k h1).elim (fun h2 => Or.inl (Ml.out.sF k h2).1) (fun h2 => Or.inr (by omega)))))
                | fail))
              all_goals
                have hk5' := hid (hk5.out.setCell (a := ⟨pb, 1, none⟩) (v := .slice (some ⟨g5, 0, none⟩) (S1.length + 1) c5) (fun _ => hF0.out _ h0.out.inF))
                have hB5' := hid (bl_set hB5.out pb 1 (.slice (some ⟨g5, 0, none⟩) (S1.length + 1) c5) Ml.out.base)
                have M5' := hid M5.out
                generalize w5.setCell ⟨pb, 1, none⟩ (.slice (some ⟨g5, 0, none⟩) (S1.length + 1) c5) = W5 at M5' hk5' hB5' hO5 ⊢
                obtain ⟨sv5, hsv5⟩ : ∃ v, v = Value.slice (some ⟨g5, 0, none⟩) (S1.length + 1) c5 := ⟨_, rfl⟩
                rw [← hsv5] at M5' hF5 hof5 ⊢
                clear hsv5
                obtain ⟨F5, hF5e⟩ : ∃ F5, F5 = (fun k => F' k ∨ sv5.ownBlock = some k) := ⟨_, rfl⟩
                rw [← hF5e] at M5' hof5
                have hF6 : Hid (∀ k, F5 k → k < s ∨ W0.heap.size ≤ k) := hid (fun k hk => hF5.out k (by rw [hF5e] at hk; exact hk))
                clear hF5e hF5
                have hall := hid (And.intro hO5.out (And.intro hof5.out (And.intro hk5'.out (And.intro hB5'.out (And.intro M5'.out hF6.out)))))
                clear hO5 hof5 hk5' hB5' M5' hF6
                revert hall
                revert W5 sv5 F5
                exact rest.out
            case pf =>
              intro W5 sv5 F5 hall
              obtain ⟨hO5, hof5, hk5', hB5', M5', hF5⟩ := hall.out
              have hO5 := hid hO5
              have hof5 := hid hof5
              have hk5' := hid hk5'
              have hB5' := hid hB5'
              have M5' := hid M5'
              have hF5 := hid hF5
              clear hall
              clear c0 c1 c2 c3 f0 f1 f2 f3 z0 z1 z2 z3 l0 l1 l2 l3 m0 m1 m2 m3 Ml
              obtain ⟨c0, c1, c2, c3, f0, f1, f2, f3⟩ := cells4p M5'.out.blk
              have hal6 := hid (al' W5 (.cells #[(.slice va mk.length vc)] 23))
              have M6 := hid (M5'.out.keep hal6.out)
              have hN6 := hid ((Nums.of_row hO5.out).keep hal6.out)
              have hk6 : Hid (Kept (fun k => k < s) W0 (W5.alloc (.cells #[(.slice va mk.length vc)] 23))) := hid (hk5'.out.step (Kept.of_below hal6.out (F := noBlk)) (fun _ _ h => h.elim))
              have hB6 := hid (bstep hB5'.out hal6.out M5'.out.size)
              have hpW5 := blk_lt M5'.out.blk
              have hpn5 : pb ≠ W5.heap.size := by omega
              go_wp2_with (at_builtin; refine wpList_append_lies _ (by rfl) _ _ _ (by rfl) B 23 iN (.slice none 0 0) 1 24 Tryz.underlying22 hiN zN0 zN1 zN2 rfl (by decide) (.slice ba' gs'.length bc') gs'.length gs' (by rfl) M6.out.beh ⟨W5.heap.size, 0, none⟩ 1 1 [(.slice va mk.length vc)] (by rfl) (by rfl) (World.news_of_block (heap_new W5 (.cells #[(.slice va mk.length vc)] 23))) (by simp [Value.oneCell']) (by omega) (by (unfold maxLen); omega) (by omega) M6.out.size (World.heap (W5.alloc (.cells #[(.slice va mk.length vc)] 23))).size rfl ?_; intro g6 c6 w6 hown6 hgrow6 hat6 hlt6; have hat6' : ∀ k, (Value.slice (some ⟨g6, 0, none⟩) (gs'.length + 1) c6).ownBlock = some k → (Value.slice ba' gs'.length bc').ownBlock = some k ∨ (W5.alloc (.cells #[(.slice va mk.length vc)] 23)).heap.size ≤ k := (fun k e0 => hat6.elim (fun e1 => Or.inl (e1.trans e0)) (fun e1 => Or.inr (by (have e2 : g6 = k := (by injection e0)); omega))); have M7 := hid (M6.out.addBeh hN6.out hof5.out hown6 hgrow6 hat6'); obtain ⟨x0, x1, x2, x3, y0, y1, y2, y3⟩ := cells4p (grown_blk hgrow6 M6.out.blk (fun e0 => (M6.out.bF _ e0).2.1 rfl)); have hk7 := hid ((kept_lowP hk6.out hgrow6 (fun k e0 => (M6.out.bF k e0).1) hF5.out).setCell (a := ⟨pb, 2, none⟩) (v := .slice (some ⟨g6, 0, none⟩) (gs'.length + 1) c6) (fun _ => hF0.out _ h0.out.inF)); have hB7 := hid (bl_set (bgrow hB6.out hgrow6 M6.out.size (fun k e0 => (M6.out.beh.lt k e0).1)) pb 2 (.slice (some ⟨g6, 0, none⟩) (gs'.length + 1) c6) M6.out.base); have hF7 : Hid (∀ k, (_ ∨ (Value.slice (some ⟨g6, 0, none⟩) (gs'.length + 1) c6).ownBlock = some k) → k < s ∨ W0.heap.size ≤ k) := hid (fun k hk => hk.elim (hF5.out k) (fun h1 => (hat6' k h1).elim (fun h2 => hF5.out k (M6.out.bF k h2).1) (fun h2 => Or.inr (Nat.le_trans hk6.out.size h2)))))
              go_roundw
              case rel => exact ⟨k + 1, _, _, _, _, by omega, by go_num, hid (by rw [htk.out, hbg'.out, ← List.append_assoc, ← List.append_assoc, hS1]; exact M7.out), hF7, hk7, hB7.out⟩
              case measure => simp [intOf]; omega
          | true =>
            go_wp2_with (first
              | (go_at_call 55; refine GMk.out.mono ?_; rintro z w7 ⟨v7, rfl, hO7, hUz7, -⟩; have hO7 := hid hO7; obtain ⟨T0, T1, T2, T3, T4, -⟩ := cells5s (hs_keep hbox.out (bl_step hal.out hUz7)); have hO7a := hid (World.ownsRow.alloc hO7.out (.cells #[.int .i64 (en : Int)] 3)))
              | (go_at_call 56; refine (GHk.out w7 (bl_step hal.out hUz7)).mono ?_; rintro z u7 ⟨rfl, hu7⟩; subst u7)
              | (at_builtin; refine wp_app _ rfl _ _ rfl (wr.alloc (.cells #[.int .u64 (za : Int), .int .u64 (zb : Int), .int .u64 (zc : Int), .int .u64 (zd : Int)] 65)).heap.size _ [(en : Int)] _ _ rfl rfl hO7a.out (Nums.lit1 w7 _) (by simp only [List.length_singleton]; omega) (Nat.le_trans hUz7.size (by simp)) ?_; intro v8 w8 hO2 hb8; have hUz := (hUz7.trans ((al' w7 (.cells #[.int .i64 (en : Int)] 3)).mono hUz7.size)).trans hb8))
            have hbg' : Hid (begB S.length en p (k + 1) = begB S.length en p k ++ [mk ++ [(en : Int)]]) := hid (by rw [hbg.out]; simp)
            generalize mk ++ [(en : Int)] = bl at hO2 hbg'
            obtain ⟨va, vc, rfl⟩ := own_shape hO2
            -- one set more, one list more
            have hO2 := hid hO2
            have hUb := hid (bl_step hal.out hUz)
            have Mu := hid (hM.out.keep hUb.out)
            have hub : Hid (w8.heap[wr.heap.size]? = some (.cells #[.int .u64 (za : Int), .int .u64 (zb : Int), .int .u64 (zc : Int), .int .u64 (zd : Int)] 65)) := hid (hs_keep hzb.out hUz)
            have hUd : Hid (Below w8.heap.size w8 w8.drew) := hid (Below.refl _ _).drew
            have Md := hid (Mu.out.keep hUd.out)
            obtain ⟨c0, c1, c2, c3, f0, f1, f2, f3⟩ := cells4p Md.out.blk
            obtain ⟨z0, z1, z2, z3, -⟩ := cells4p (hs_keep hub.out hUd.out)
            have hUl : Hid (Below w8.heap.size w8 (w8.alloc (.cells #[.int .u64 (za : Int), .int .u64 (zb : Int), .int .u64 (zc : Int), .int .u64 (zd : Int)] 65)).drew) := hid (bl_step (al' w8 (.cells #[.int .u64 (za : Int), .int .u64 (zb : Int), .int .u64 (zc : Int), .int .u64 (zd : Int)] 65)) (Below.refl _ _).drew)
            have Ml := hid (Mu.out.keep hUl.out)
            obtain ⟨l0, l1, l2, l3, m0, m1, m2, m3⟩ := cells4p Ml.out.blk
            have hsl : (S ++ p.sets.take k).length ≤ 2100 := by rw [List.length_append, List.length_take]; omega
            have hgsl : gs'.length ≤ 2100 := by
              have := hgl2.out
              omega
            have hkU : Hid (Kept (fun k => k < s) W0 ((w8.alloc (.cells #[.int .u64 (za : Int), .int .u64 (zb : Int), .int .u64 (zc : Int), .int .u64 (zd : Int)] 65)).drew)) := hid (hkr.out.step (Kept.of_below (bl_step hUb.out hUl.out) (F := noBlk)) (fun _ _ h => h.elim))
            have hBU : Hid (Below B w ((w8.alloc (.cells #[.int .u64 (za : Int), .int .u64 (zb : Int), .int .u64 (zc : Int), .int .u64 (zd : Int)] 65)).drew)) := hid (bstep hbl (bl_step hUb.out hUl.out) hM.out.size)
            have hsizeU : ((w8.alloc (.cells #[.int .u64 (za : Int), .int .u64 (zb : Int), .int .u64 (zc : Int), .int .u64 (zd : Int)] 65)).drew).heap.size = w8.heap.size + 1 := by simp
            generalize hS1 : S ++ p.sets.take k = S1 at *
            go_wp2_with fail
            apply collapse
            case h =>
              intro rest
              go_region_law ((first
                | (refine step_append_lies _ (by rfl) (.tmp 66) (.tmp 68) 68 (by rfl) B 65 iS (.agg #[.int .u64 0, .int .u64 0, .int .u64 0, .int .u64 0]) 4 32 Tryz.underlying68 hiS zS0 zS1 zS2 rfl (by decide) (.slice sa' S1.length sc') S1.length (flatS S1) (by rfl) Ml.out.sets ⟨w8.heap.size, 0, none⟩ 1 1 [.int .u64 (za : Int), .int .u64 (zb : Int), .int .u64 (zc : Int), .int .u64 (zd : Int)] (by rfl) (by rfl) (World.news_of_block (w := (w8.alloc (.cells #[.int .u64 (za : Int), .int .u64 (zb : Int), .int .u64 (zc : Int), .int .u64 (zd : Int)] 65)).drew) (heap_new w8 (.cells #[.int .u64 (za : Int), .int .u64 (zb : Int), .int .u64 (zc : Int), .int .u64 (zd : Int)] 65))) (by simp [Value.oneCell']) (by omega) (by (unfold maxLen); omega) (by omega) Ml.out.size (w8.heap.size + 1) hsizeU ?_; intro g5 c5 w5 hown5 hgrow5 hat5 hlt5; have hat5' : ∀ k, (Value.slice (some ⟨g5, 0, none⟩) (S1.length + 1) c5).ownBlock = some k → (Value.slice sa' S1.length sc').ownBlock = some k ∨ ((w8.alloc (.cells #[.int .u64 (za : Int), .int .u64 (zb : Int), .int .u64 (zc : Int), .int .u64 (zd : Int)] 65)).drew).heap.size ≤ k := (fun k e0 => hat5.elim (fun e1 => Or.inl (e1.trans e0)) (fun e1 => Or.inr (by (have e2 : g5 = k := (by injection e0)); omega))); have M5 := hid (Ml.out.addSet (ownS_snoc hown5 rfl) hgrow5 hat5'); obtain ⟨x0, x1, x2, x3, y0, y1, y2, y3⟩ := cells4p (grown_blk hgrow5 Ml.out.blk (fun e0 => (Ml.out.sF _ e0).2.1 rfl)); have hk5 := hid (kept_lowP hkU.out hgrow5 (fun k e0 => (Ml.out.sF k e0).1) hFr.out); have hB5 := hid (bgrow hBU.out hgrow5 Ml.out.size (fun k e0 => (Ml.out.sets.lt k e0).1)); have hF5 : Hid (∀ k, (F' k ∨ (Value.slice (some ⟨g5, 0, none⟩) (S1.length + 1) c5).ownBlock = some k) → k < s ∨ W0.heap.size ≤ k) := hid (fun k hk => hk.elim (hFr.out k) (fun h1 => (hat5' k h1).elim (fun h2 => hFr.out k (Ml.out.sF k h2).1) (fun h2 => Or.inr (Nat.le_trans hkU.out.size h2)))); have hO5 := hid (own_set (pb := pb) (o := 1) (x := .slice (some ⟨g5, 0, none⟩) (S1.length + 1) c5) (own_kept (own_below hO2.out hUl.out) (Kept.of_grown hgrow5) (fun j e0 e1 => Nat.lt_irrefl _ (Nat.lt_of_lt_of_le (hFb.out j (Ml.out.sF j e1).1) (hO2.out.lt j e0).1))) (fun e0 => Nat.lt_irrefl _ (Nat.lt_of_lt_of_le (hFb.out pb Ml.out.inF) (hO2.out.lt pb e0).1))); have hof5 := hid (off_more (v5 := .slice (some ⟨g5, 0, none⟩) (S1.length + 1) c5) hO2.out hFb.out (fun k h1 => (hat5' k h1).elim (fun h2 => Or.inl (Ml.out.sF k h2).1) (fun h2 => Or.inr (by omega)))))
                | fail))
              all_goals
                have hk5' := hid (hk5.out.setCell (a := ⟨pb, 1, none⟩) (v := .slice (some ⟨g5, 0, none⟩) (S1.length + 1) c5) (fun _ => hF0.out _ h0.out.inF))
                have hB5' := hid (bl_set hB5.out pb 1 (.slice (some ⟨g5, 0, none⟩) (S1.length + 1) c5) Ml.out.base)
                have M5' := hid M5.out
                generalize w5.setCell ⟨pb, 1, none⟩ (.slice (some ⟨g5, 0, none⟩) (S1.length + 1) c5) = W5 at M5' hk5' hB5' hO5 ⊢
                obtain ⟨sv5, hsv5⟩ : ∃ v, v = Value.slice (some ⟨g5, 0, none⟩) (S1.length + 1) c5 := ⟨_, rfl⟩
                rw [← hsv5] at M5' hF5 hof5 ⊢
                clear hsv5
                obtain ⟨F5, hF5e⟩ : ∃ F5, F5 = (fun k => F' k ∨ sv5.ownBlock = some k) := ⟨_, rfl⟩
                rw [← hF5e] at M5' hof5
                have hF6 : Hid (∀ k, F5 k → k < s ∨ W0.heap.size ≤ k) := hid (fun k hk => hF5.out k (by rw [hF5e] at hk; exact hk))
                clear hF5e hF5
                have hall := hid (And.intro hO5.out (And.intro hof5.out (And.intro hk5'.out (And.intro hB5'.out (And.intro M5'.out hF6.out)))))
                clear hO5 hof5 hk5' hB5' M5' hF6
                revert hall
                revert W5 sv5 F5
                exact rest.out
            case pf =>
              intro W5 sv5 F5 hall
              obtain ⟨hO5, hof5, hk5', hB5', M5', hF5⟩ := hall.out
              have hO5 := hid hO5
              have hof5 := hid hof5
              have hk5' := hid hk5'
              have hB5' := hid hB5'
              have M5' := hid M5'
              have hF5 := hid hF5
              clear hall
              clear c0 c1 c2 c3 f0 f1 f2 f3 z0 z1 z2 z3 l0 l1 l2 l3 m0 m1 m2 m3 Ml
              obtain ⟨c0, c1, c2, c3, f0, f1, f2, f3⟩ := cells4p M5'.out.blk
              have hal6 := hid (al' W5 (.cells #[(.slice va bl.length vc)] 23))
              have M6 := hid (M5'.out.keep hal6.out)
              have hN6 := hid ((Nums.of_row hO5.out).keep hal6.out)
              have hk6 : Hid (Kept (fun k => k < s) W0 (W5.alloc (.cells #[(.slice va bl.length vc)] 23))) := hid (hk5'.out.step (Kept.of_below hal6.out (F := noBlk)) (fun _ _ h => h.elim))
              have hB6 := hid (bstep hB5'.out hal6.out M5'.out.size)
              have hpW5 := blk_lt M5'.out.blk
              have hpn5 : pb ≠ W5.heap.size := by omega
              go_wp2_with (at_builtin; refine wpList_append_lies _ (by rfl) _ _ _ (by rfl) B 23 iN (.slice none 0 0) 1 24 Tryz.underlying22 hiN zN0 zN1 zN2 rfl (by decide) (.slice ba' gs'.length bc') gs'.length gs' (by rfl) M6.out.beh ⟨W5.heap.size, 0, none⟩ 1 1 [(.slice va bl.length vc)] (by rfl) (by rfl) (World.news_of_block (heap_new W5 (.cells #[(.slice va bl.length vc)] 23))) (by simp [Value.oneCell']) (by omega) (by (unfold maxLen); omega) (by omega) M6.out.size (World.heap (W5.alloc (.cells #[(.slice va bl.length vc)] 23))).size rfl ?_; intro g6 c6 w6 hown6 hgrow6 hat6 hlt6; have hat6' : ∀ k, (Value.slice (some ⟨g6, 0, none⟩) (gs'.length + 1) c6).ownBlock = some k → (Value.slice ba' gs'.length bc').ownBlock = some k ∨ (W5.alloc (.cells #[(.slice va bl.length vc)] 23)).heap.size ≤ k := (fun k e0 => hat6.elim (fun e1 => Or.inl (e1.trans e0)) (fun e1 => Or.inr (by (have e2 : g6 = k := (by injection e0)); omega))); have M7 := hid (M6.out.addBeh hN6.out hof5.out hown6 hgrow6 hat6'); obtain ⟨x0, x1, x2, x3, y0, y1, y2, y3⟩ := cells4p (grown_blk hgrow6 M6.out.blk (fun e0 => (M6.out.bF _ e0).2.1 rfl)); have hk7 := hid ((kept_lowP hk6.out hgrow6 (fun k e0 => (M6.out.bF k e0).1) hF5.out).setCell (a := ⟨pb, 2, none⟩) (v := .slice (some ⟨g6, 0, none⟩) (gs'.length + 1) c6) (fun _ => hF0.out _ h0.out.inF)); have hB7 := hid (bl_set (bgrow hB6.out hgrow6 M6.out.size (fun k e0 => (M6.out.beh.lt k e0).1)) pb 2 (.slice (some ⟨g6, 0, none⟩) (gs'.length + 1) c6) M6.out.base); have hF7 : Hid (∀ k, (_ ∨ (Value.slice (some ⟨g6, 0, none⟩) (gs'.length + 1) c6).ownBlock = some k) → k < s ∨ W0.heap.size ≤ k) := hid (fun k hk => hk.elim (hF5.out k) (fun h1 => (hat6' k h1).elim (fun h2 => hF5.out k (M6.out.bF k h2).1) (fun h2 => Or.inr (Nat.le_trans hk6.out.size h2)))))
              go_roundw
              case rel => exact ⟨k + 1, _, _, _, _, by omega, by go_num, hid (by rw [htk.out, hbg'.out, ← List.append_assoc, ← List.append_assoc, hS1]; exact M7.out), hF7, hk7, hB7.out⟩
              case measure => simp [intOf]; omega
        · have hltz : ¬ (k : Int) < (p.sets.length : Int) := by omega
          obtain rfl : k = p.sets.length := by omega
          have hfinal : Hid (PlX B pb e wr (S ++ p.sets) (G ++ begB S.length en p p.sets.length) FF) := hid ⟨_, _, _, _, _, by have := hM.out; rw [List.take_length] at this; exact this⟩
          go_wp2
          first | go_end0 | skip
          exact ⟨rfl, hfinal.out, hbl⟩
    | true =>
      rw [hnu] at R1
      obtain ⟨c0, c1, c2, c3, f0, f1, f2, f3⟩ := cells4p M3.out.blk
      have hal3 := hid (al' W3 (.cells #[.int .i64 (en : Int)] 3))
      have M4 := hid (M3.out.keep hal3.out)
      have hpW3 := blk_lt M3.out.blk
      have hpn3 : pb ≠ W3.heap.size := by omega
      have hk4 : Hid (Kept (fun k => k < s) W0 (W3.alloc (.cells #[.int .i64 (en : Int)] 3))) := hid (hk3.out.step (Kept.of_below hal3.out (F := noBlk)) (fun _ _ h => h.elim))
      have hB4 := hid (bstep hB3.out hal3.out M3.out.size)
      obtain ⟨fa3, fc3, rfl⟩ := own_shape M3.out.fir
      have hfir4 : Hid (World.ownsRow (W3.alloc (.cells #[.int .i64 (en : Int)] 3)) B 3 1 (.slice fa3 (f ++ ml).length fc3) (f ++ ml).length (numCells (f ++ ml))) := hid M4.out.fir
      have hsn : Hid (∀ (w4 : World) (g4 c4 : Nat), w4.ownsRow B 3 1 (.slice (some ⟨g4, 0, none⟩) ((f ++ ml).length + 1) c4) ((f ++ ml).length + 1) (numCells (f ++ ml) ++ [.int .i64 (en : Int)]) → Own w4 B (.slice (some ⟨g4, 0, none⟩) ((f ++ ml).length + 1) c4) (f ++ ml ++ [(en : Int)])) := hid (fun w4 g4 c4 h => by have e1 : (f ++ ml ++ [(en : Int)]).length = (f ++ ml).length + 1 := List.length_append; unfold Own; rw [e1, numCells_snoc]; exact h)
      generalize hnf3 : (f ++ ml).length = nf3 at *
      go_wp2_with (at_builtin; refine wpList_append_lies _ (by rfl) _ _ _ (by rfl) B 3 i0 (.int .i64 0) 1 8 Tryz.underlying23 hi0 z00 z01 z02 rfl (by decide) (.slice fa3 nf3 fc3) nf3 (numCells (f ++ ml)) (by rfl) hfir4.out ⟨W3.heap.size, 0, none⟩ 1 1 [.int .i64 (en : Int)] (by rfl) (by rfl) (World.news_of_block (heap_new W3 (.cells #[.int .i64 (en : Int)] 3))) (by simp [Value.oneCell']) (by omega) (by (unfold maxLen); omega) (by omega) M4.out.size (World.heap (W3.alloc (.cells #[.int .i64 (en : Int)] 3))).size rfl ?_; intro g4 c4 w4 hown4 hgrow4 hat4 hlt4; have hat4' : ∀ k, (Value.slice (some ⟨g4, 0, none⟩) (nf3 + 1) c4).ownBlock = some k → (Value.slice fa3 nf3 fc3).ownBlock = some k ∨ (W3.alloc (.cells #[.int .i64 (en : Int)] 3)).heap.size ≤ k := (fun k e0 => hat4.elim (fun e1 => Or.inl (e1.trans e0)) (fun e1 => Or.inr (by (have e2 : g4 = k := (by injection e0)); omega))); have hown4' : Own w4 B (.slice (some ⟨g4, 0, none⟩) (nf3 + 1) c4) (f ++ ml ++ [(en : Int)]) := hsn.out _ _ _ hown4; have M5 := hid (M4.out.addFirst hown4' hgrow4 hat4'); obtain ⟨x0, x1, x2, x3, y0, y1, y2, y3⟩ := cells4p (grown_blk hgrow4 M4.out.blk (fun e0 => (M4.out.fF _ e0).2 rfl)); have hk5 := hid ((kept_lowP hk4.out hgrow4 (fun k e0 => (M4.out.fF k e0).1) hF2.out).setCell (a := ⟨pb, 3, none⟩) (v := .slice (some ⟨g4, 0, none⟩) (nf3 + 1) c4) (fun _ => hF0.out _ h0.out.inF)); have hB5 := hid (bl_set (bgrow hB4.out hgrow4 M4.out.size (fun k e0 => (M4.out.fir.lt k e0).1)) pb 3 (.slice (some ⟨g4, 0, none⟩) (nf3 + 1) c4) M4.out.base); have hF5 : Hid (∀ k, (F3 k ∨ (Value.slice (some ⟨g4, 0, none⟩) (nf3 + 1) c4).ownBlock = some k) → k < s ∨ W0.heap.size ≤ k) := hid (fun k hk => hk.elim (hF2.out k) (fun h1 => (hat4' k h1).elim (fun h2 => hF2.out k (M4.out.fF k h2).1) (fun h2 => Or.inr (Nat.le_trans hk4.out.size h2)))); obtain ⟨V0, V1, V2, V3, -⟩ := cells4p M5.out.blk; obtain ⟨U0, U1, U2, U3, U4, -⟩ := cells5s (hrb.out _ hk5.out))
      clear x0 x1 x2 x3 y0 y1 y2 y3 c0 c1 c2 c3 f0 f1 f2 f3 R0 R1 R2 R3 R4 V0 V1 V2 V3 U0 U1 U2 U3 U4
      obtain ⟨fv4, hfv4⟩ : ∃ v, v = Value.slice (some ⟨g4, 0, none⟩) (nf3 + 1) c4 := ⟨_, rfl⟩
      rw [← hfv4] at hk5 hB5 M5 hF5 ⊢
      clear hfv4
      generalize w4.setCell ⟨pb, 3, none⟩ fv4 = W6 at hk5 hB5 M5 ⊢
      have hkX := hk5
      have hBX := hB5
      have hFX := hF5
      have MX : Hid (PlO B pb e _ W6 _ _ fv4 S gs G FF) := hid (by rw [hFF.out, hnu, if_pos rfl, ← List.append_assoc]; exact M5.out)

      obtain ⟨R0, R1, R2, R3, R4, -⟩ := cells5s (hrb.out W6 hkX.out)
      have hglG := hid MX.out.nums.1
      go_wp2_with fail
      go_loopw [42] (fun i wr => ∃ (k : Nat) (F' : Nat → Prop) (sv' bv' : Value) (gs' : List Value), k ≤ p.sets.length ∧ i = .int .i64 k ∧ Hid (PlO B pb e F' wr sv' bv' fv4 (S ++ p.sets.take k) gs' (G ++ begB S.length en p k) FF) ∧ Hid (∀ k, F' k → k < s ∨ W0.heap.size ≤ k) ∧ Hid (Kept (fun k => k < s) W0 wr) ∧ Below B w wr) (fun i _ => p.sets.length - (intOf i).toNat)
      case atStart => exact ⟨0, _, _, _, _, Nat.zero_le _, rfl, hid (by rw [List.take_zero, List.append_nil, begB, List.append_nil]; exact MX.out), hFX, hkX, hBX.out⟩
      case round =>
        obtain ⟨k, F', sv', bv', gs', hk, rfl, hM, hFr, hkr, hbl⟩ := hrel
        by_cases hlt : k < p.sets.length
        · have hltz : (k : Int) < (p.sets.length : Int) := by omega
          have hsp := hr0.out.kept hkr.out
          have hbox := hid (hrb.out wr hkr.out)
          have hws : w.heap.size < wr.heap.size := by have := hs0.out; have := hkr.out.size; omega
          have hwn : w.heap.size ≠ wr.heap.size := by omega
          obtain ⟨Q0, Q1, Q2, Q3, Q4, -⟩ := cells5s hbox.out
          obtain ⟨sa1, sc1, es, hsat⟩ := sets_at hsp.sets
          injection es with es1 es2 es3
          obtain ⟨b1, o1, hsa1, hb1, hfit, h4⟩ := hsat k hlt
          rw [hsa1] at es1
          obtain ⟨ga1, gc1, eg, hgat⟩ := numss_at hsp.follow
          injection eg with eg1 eg2 eg3
          obtain ⟨b2, o2, x, hga1, hb2, hx, hNx⟩ := hgat k (by rw [hfol.out]; exact hlt)
          rw [hga1] at eg1
          have hNl := hsp.last
          have hfk := (hsm'.out).fol k
          have hll := hsm'.out.last
          have htk : Hid (p.sets.take (k + 1) = p.sets.take k ++ [p.sets.getD k noneB]) := hid (by rw [List.take_succ_eq_append_getElem hlt, List.getD_eq_getElem?_getD, List.getElem?_eq_getElem hlt]; rfl)
          have hbg : Hid (begB S.length en p (k + 1) = begB S.length en p k ++ [movL S.length (p.follow.getD k []) ++ (if p.last.contains (k : Int) then [(en : Int)] else [])]) := hid rfl
          generalize p.sets.getD k noneB = Z at h4 hfit htk
          obtain ⟨za, zb, zc, zd⟩ := Z
          obtain ⟨u0, u1, u2, u3⟩ := h4
          simp only at u0 u1 u2 u3
          have hal := hid (al' wr (.cells #[.int .u64 (za : Int), .int .u64 (zb : Int), .int .u64 (zc : Int), .int .u64 (zd : Int)] 65))
          have hzb := hid (heap_new wr (.cells #[.int .u64 (za : Int), .int .u64 (zb : Int), .int .u64 (zc : Int), .int .u64 (zd : Int)] 65))
          have GMk := hid (GM.out x _ (wr.alloc (.cells #[.int .u64 (za : Int), .int .u64 (zb : Int), .int .u64 (zc : Int), .int .u64 (zd : Int)] 65)) (by have := hfk.1; omega) (fun y hy => by have := hfk.2 y hy; omega) (hNx.keep hal.out))
          have GHk := hid (fun u (hu : Below wr.heap.size wr u) => setsHas _ p.last (k : Int) u (by omega) (hNl.keep hu))
          have hmk60 : (movL S.length (p.follow.getD k [])).length ≤ 60 := by rw [movL_len]; exact hfk.1
          generalize p.last.contains (k : Int) = lt at GHk hbg
          generalize movL S.length (p.follow.getD k []) = mk at GMk hbg hmk60
          have hgl2 : Hid (gs'.length = G.length + k) := hid (by rw [hM.out.nums.1, List.length_append, begB_is, List.length_map, List.length_range])
          have hGl : G.length ≤ 2000 := by have := hglG.out; omega
          have hFb : Hid (∀ k, F' k → k < (wr.alloc (.cells #[.int .u64 (za : Int), .int .u64 (zb : Int), .int .u64 (zc : Int), .int .u64 (zd : Int)] 65)).heap.size) := hid (fun k hk => by have := hM.out.lt k hk; simp; omega)
          obtain ⟨sa', sc', rfl⟩ := own_shape hM.out.sets
          obtain ⟨ba', bc', rfl⟩ := own_shape hM.out.beh
          subst es1 eg1
          clear hsat hgat hNx hNl hsp hfit hsa1 hga1 es2 es3 eg2 eg3 hfk
          cases lt with
          | false =>
            go_wp2_with (first
              | (go_at_call 55; refine GMk.out.mono ?_; rintro z w7 ⟨v7, rfl, hO2, hUz, -⟩; have hUb := hUz; obtain ⟨T0, T1, T2, T3, T4, -⟩ := cells5s (hs_keep hbox.out (bl_step hal.out hUz)))
              | (go_at_call 56; refine (GHk.out w7 (bl_step hal.out hUz)).mono ?_; rintro z u7 ⟨rfl, hu7⟩; subst u7))
            have hbg' : Hid (begB S.length en p (k + 1) = begB S.length en p k ++ [mk]) := hid (by rw [hbg.out, if_neg Bool.false_ne_true, List.append_nil])
            obtain ⟨va, vc, rfl⟩ := own_shape hO2
            -- one set more, one list more
            have hO2 := hid hO2
            have hUb := hid (bl_step hal.out hUz)
            have Mu := hid (hM.out.keep hUb.out)
            have hub : Hid (w7.heap[wr.heap.size]? = some (.cells #[.int .u64 (za : Int), .int .u64 (zb : Int), .int .u64 (zc : Int), .int .u64 (zd : Int)] 65)) := hid (hs_keep hzb.out hUz)
            have hUd : Hid (Below w7.heap.size w7 w7.drew) := hid (Below.refl _ _).drew
            have Md := hid (Mu.out.keep hUd.out)
            obtain ⟨c0, c1, c2, c3, f0, f1, f2, f3⟩ := cells4p Md.out.blk
            obtain ⟨z0, z1, z2, z3, -⟩ := cells4p (hs_keep hub.out hUd.out)
            have hUl : Hid (Below w7.heap.size w7 (w7.alloc (.cells #[.int .u64 (za : Int), .int .u64 (zb : Int), .int .u64 (zc : Int), .int .u64 (zd : Int)] 65)).drew) := hid (bl_step (al' w7 (.cells #[.int .u64 (za : Int), .int .u64 (zb : Int), .int .u64 (zc : Int), .int .u64 (zd : Int)] 65)) (Below.refl _ _).drew)
            have Ml := hid (Mu.out.keep hUl.out)
            obtain ⟨l0, l1, l2, l3, m0, m1, m2, m3⟩ := cells4p Ml.out.blk
            have hsl : (S ++ p.sets.take k).length ≤ 2100 := by rw [List.length_append, List.length_take]; omega
            have hgsl : gs'.length ≤ 2100 := by
              have := hgl2.out
              omega
            have hkU : Hid (Kept (fun k => k < s) W0 ((w7.alloc (.cells #[.int .u64 (za : Int), .int .u64 (zb : Int), .int .u64 (zc : Int), .int .u64 (zd : Int)] 65)).drew)) := hid (hkr.out.step (Kept.of_below (bl_step hUb.out hUl.out) (F := noBlk)) (fun _ _ h => h.elim))
            have hBU : Hid (Below B w ((w7.alloc (.cells #[.int .u64 (za : Int), .int .u64 (zb : Int), .int .u64 (zc : Int), .int .u64 (zd : Int)] 65)).drew)) := hid (bstep hbl (bl_step hUb.out hUl.out) hM.out.size)
            have hsizeU : ((w7.alloc (.cells #[.int .u64 (za : Int), .int .u64 (zb : Int), .int .u64 (zc : Int), .int .u64 (zd : Int)] 65)).drew).heap.size = w7.heap.size + 1 := by simp
            generalize hS1 : S ++ p.sets.take k = S1 at *
            go_wp2_with fail
            apply collapse
            case h =>
              intro rest
              go_region_law ((first
                | (refine step_append_lies _ (by rfl) (.tmp 66) (.tmp 68) 68 (by rfl) B 65 iS (.agg #[.int .u64 0, .int .u64 0, .int .u64 0, .int .u64 0]) 4 32 Tryz.underlying68 hiS zS0 zS1 zS2 rfl (by decide) (.slice sa' S1.length sc') S1.length (flatS S1) (by rfl) Ml.out.sets ⟨w7.heap.size, 0, none⟩ 1 1 [.int .u64 (za : Int), .int .u64 (zb : Int), .int .u64 (zc : Int), .int .u64 (zd : Int)] (by rfl) (by rfl) (World.news_of_block (w := (w7.alloc (.cells #[.int .u64 (za : Int), .int .u64 (zb : Int), .int .u64 (zc : Int), .int .u64 (zd : Int)] 65)).drew) (heap_new w7 (.cells #[.int .u64 (za : Int), .int .u64 (zb : Int), .int .u64 (zc : Int), .int .u64 (zd : Int)] 65))) (by simp [Value.oneCell']) (by omega) (by (unfold maxLen); omega) (by omega) Ml.out.size (w7.heap.size + 1) hsizeU ?_; intro g5 c5 w5 hown5 hgrow5 hat5 hlt5; have hat5' : ∀ k, (Value.slice (some ⟨g5, 0, none⟩) (S1.length + 1) c5).ownBlock = some k → (Value.slice sa' S1.length sc').ownBlock = some k ∨ ((w7.alloc (.cells #[.int .u64 (za : Int), .int .u64 (zb : Int), .int .u64 (zc : Int), .int .u64 (zd : Int)] 65)).drew).heap.size ≤ k := (fun k e0 => hat5.elim (fun e1 => Or.inl (e1.trans e0)) (fun e1 => Or.inr (by (have e2 : g5 = k := (by injection e0)); omega))); have M5 := hid (Ml.out.addSet (ownS_snoc hown5 rfl) hgrow5 hat5'); obtain ⟨x0, x1, x2, x3, y0, y1, y2, y3⟩ := cells4p (grown_blk hgrow5 Ml.out.blk (fun e0 => (Ml.out.sF _ e0).2.1 rfl)); have hk5 := hid (kept_lowP hkU.out hgrow5 (fun k e0 => (Ml.out.sF k e0).1) hFr.out); have hB5 := hid (bgrow hBU.out hgrow5 Ml.out.size (fun k e0 => (Ml.out.sets.lt k e0).1)); have hF5 : Hid (∀ k, (F' k ∨ (Value.slice (some ⟨g5, 0, none⟩) (S1.length + 1) c5).ownBlock = some k) → k < s ∨ W0.heap.size ≤ k) := hid (fun k hk => hk.elim (hFr.out k) (fun h1 => (hat5' k h1).elim (fun h2 => hFr.out k (Ml.out.sF k h2).1) (fun h2 => Or.inr (Nat.le_trans hkU.out.size h2)))); have hO5 := hid (own_set (pb := pb) (o := 1) (x := .slice (some ⟨g5, 0, none⟩) (S1.length + 1) c5) (own_kept (own_below hO2.out hUl.out) (Kept.of_grown hgrow5) (fun j e0 e1 => Nat.lt_irrefl _ (Nat.lt_of_lt_of_le (hFb.out j (Ml.out.sF j e1).1) (hO2.out.lt j e0).1))) (fun e0 => Nat.lt_irrefl _ (Nat.lt_of_lt_of_le (hFb.out pb Ml.out.inF) (hO2.out.lt pb e0).1))); have hof5 := hid (off_more (v5 := .slice (some ⟨g5, 0, none⟩) (S1.length + 1) c5) hO2.out hFb.out (fun k h1 => (hat5' k h1).elim (fun h2 => Or.inl (Ml.out.sF k h2).1) (fun h2 => Or.inr (by omega)))))
                | fail))
              all_goals
                have hk5' := hid (hk5.out.setCell (a := ⟨pb, 1, none⟩) (v := .slice (some ⟨g5, 0, none⟩) (S1.length + 1) c5) (fun _ => hF0.out _ h0.out.inF))
                have hB5' := hid (bl_set hB5.out pb 1 (.slice (some ⟨g5, 0, none⟩) (S1.length + 1) c5) Ml.out.base)
                have M5' := hid M5.out
                generalize w5.setCell ⟨pb, 1, none⟩ (.slice (some ⟨g5, 0, none⟩) (S1.length + 1) c5) = W5 at M5' hk5' hB5' hO5 ⊢
                obtain ⟨sv5, hsv5⟩ : ∃ v, v = Value.slice (some ⟨g5, 0, none⟩) (S1.length + 1) c5 := ⟨_, rfl⟩
                rw [← hsv5] at M5' hF5 hof5 ⊢
                clear hsv5
                obtain ⟨F5, hF5e⟩ : ∃ F5, F5 = (fun k => F' k ∨ sv5.ownBlock = some k) := ⟨_, rfl⟩
                rw [← hF5e] at M5' hof5
                have hF6 : Hid (∀ k, F5 k → k < s ∨ W0.heap.size ≤ k) := hid (fun k hk => hF5.out k (by rw [hF5e] at hk; exact hk))
                clear hF5e hF5
                have hall := hid (And.intro hO5.out (And.intro hof5.out (And.intro hk5'.out (And.intro hB5'.out (And.intro M5'.out hF6.out)))))
                clear hO5 hof5 hk5' hB5' M5' hF6
                revert hall
                revert W5 sv5 F5
                exact rest.out
            case pf =>
              intro W5 sv5 F5 hall
              obtain ⟨hO5, hof5, hk5', hB5', M5', hF5⟩ := hall.out
              have hO5 := hid hO5
              have hof5 := hid hof5
              have hk5' := hid hk5'
              have hB5' := hid hB5'
              have M5' := hid M5'
              have hF5 := hid hF5
              clear hall
              clear c0 c1 c2 c3 f0 f1 f2 f3 z0 z1 z2 z3 l0 l1 l2 l3 m0 m1 m2 m3 Ml
              obtain ⟨c0, c1, c2, c3, f0, f1, f2, f3⟩ := cells4p M5'.out.blk
              have hal6 := hid (al' W5 (.cells #[(.slice va mk.length vc)] 23))
              have M6 := hid (M5'.out.keep hal6.out)
              have hN6 := hid ((Nums.of_row hO5.out).keep hal6.out)
              have hk6 : Hid (Kept (fun k => k < s) W0 (W5.alloc (.cells #[(.slice va mk.length vc)] 23))) := hid (hk5'.out.step (Kept.of_below hal6.out (F := noBlk)) (fun _ _ h => h.elim))
              have hB6 := hid (bstep hB5'.out hal6.out M5'.out.size)
              have hpW5 := blk_lt M5'.out.blk
              have hpn5 : pb ≠ W5.heap.size := by omega
              go_wp2_with (at_builtin; refine wpList_append_lies _ (by rfl) _ _ _ (by rfl) B 23 iN (.slice none 0 0) 1 24 Tryz.underlying22 hiN zN0 zN1 zN2 rfl (by decide) (.slice ba' gs'.length bc') gs'.length gs' (by rfl) M6.out.beh ⟨W5.heap.size, 0, none⟩ 1 1 [(.slice va mk.length vc)] (by rfl) (by rfl) (World.news_of_block (heap_new W5 (.cells #[(.slice va mk.length vc)] 23))) (by simp [Value.oneCell']) (by omega) (by (unfold maxLen); omega) (by omega) M6.out.size (World.heap (W5.alloc (.cells #[(.slice va mk.length vc)] 23))).size rfl ?_; intro g6 c6 w6 hown6 hgrow6 hat6 hlt6; have hat6' : ∀ k, (Value.slice (some ⟨g6, 0, none⟩) (gs'.length + 1) c6).ownBlock = some k → (Value.slice ba' gs'.length bc').ownBlock = some k ∨ (W5.alloc (.cells #[(.slice va mk.length vc)] 23)).heap.size ≤ k := (fun k e0 => hat6.elim (fun e1 => Or.inl (e1.trans e0)) (fun e1 => Or.inr (by (have e2 : g6 = k := (by injection e0)); omega))); have M7 := hid (M6.out.addBeh hN6.out hof5.out hown6 hgrow6 hat6'); obtain ⟨x0, x1, x2, x3, y0, y1, y2, y3⟩ := cells4p (grown_blk hgrow6 M6.out.blk (fun e0 => (M6.out.bF _ e0).2.1 rfl)); have hk7 := hid ((kept_lowP hk6.out hgrow6 (fun k e0 => (M6.out.bF k e0).1) hF5.out).setCell (a := ⟨pb, 2, none⟩) (v := .slice (some ⟨g6, 0, none⟩) (gs'.length + 1) c6) (fun _ => hF0.out _ h0.out.inF)); have hB7 := hid (bl_set (bgrow hB6.out hgrow6 M6.out.size (fun k e0 => (M6.out.beh.lt k e0).1)) pb 2 (.slice (some ⟨g6, 0, none⟩) (gs'.length + 1) c6) M6.out.base); have hF7 : Hid (∀ k, (_ ∨ (Value.slice (some ⟨g6, 0, none⟩) (gs'.length + 1) c6).ownBlock = some k) → k < s ∨ W0.heap.size ≤ k) := hid (fun k hk => hk.elim (hF5.out k) (fun h1 => (hat6' k h1).elim (fun h2 => hF5.out k (M6.out.bF k h2).1) (fun h2 => Or.inr (Nat.le_trans hk6.out.size h2)))))
              go_roundw
              case rel => exact ⟨k + 1, _, _, _, _, by omega, by go_num, hid (by rw [htk.out, hbg'.out, ← List.append_assoc, ← List.append_assoc, hS1]; exact M7.out), hF7, hk7, hB7.out⟩
              case measure => simp [intOf]; omega
          | true =>
            go_wp2_with (first
              | (go_at_call 55; refine GMk.out.mono ?_; rintro z w7 ⟨v7, rfl, hO7, hUz7, -⟩; have hO7 := hid hO7; obtain ⟨T0, T1, T2, T3, T4, -⟩ := cells5s (hs_keep hbox.out (bl_step hal.out hUz7)); have hO7a := hid (World.ownsRow.alloc hO7.out (.cells #[.int .i64 (en : Int)] 3)))
              | (go_at_call 56; refine (GHk.out w7 (bl_step hal.out hUz7)).mono ?_; rintro z u7 ⟨rfl, hu7⟩; subst u7)
              | (at_builtin; refine wp_app _ rfl _ _ rfl (wr.alloc (.cells #[.int .u64 (za : Int), .int .u64 (zb : Int), .int .u64 (zc : Int), .int .u64 (zd : Int)] 65)).heap.size _ [(en : Int)] _ _ rfl rfl hO7a.out (Nums.lit1 w7 _) (by simp only [List.length_singleton]; omega) (Nat.le_trans hUz7.size (by simp)) ?_; intro v8 w8 hO2 hb8; have hUz := (hUz7.trans ((al' w7 (.cells #[.int .i64 (en : Int)] 3)).mono hUz7.size)).trans hb8))
            have hbg' : Hid (begB S.length en p (k + 1) = begB S.length en p k ++ [mk ++ [(en : Int)]]) := hid (by rw [hbg.out]; simp)
            generalize mk ++ [(en : Int)] = bl at hO2 hbg'
            obtain ⟨va, vc, rfl⟩ := own_shape hO2
            -- one set more, one list more
            have hO2 := hid hO2
            have hUb := hid (bl_step hal.out hUz)
            have Mu := hid (hM.out.keep hUb.out)
            have hub : Hid (w8.heap[wr.heap.size]? = some (.cells #[.int .u64 (za : Int), .int .u64 (zb : Int), .int .u64 (zc : Int), .int .u64 (zd : Int)] 65)) := hid (hs_keep hzb.out hUz)
            have hUd : Hid (Below w8.heap.size w8 w8.drew) := hid (Below.refl _ _).drew
            have Md := hid (Mu.out.keep hUd.out)
            obtain ⟨c0, c1, c2, c3, f0, f1, f2, f3⟩ := cells4p Md.out.blk
            obtain ⟨z0, z1, z2, z3, -⟩ := cells4p (hs_keep hub.out hUd.out)
            have hUl : Hid (Below w8.heap.size w8 (w8.alloc (.cells #[.int .u64 (za : Int), .int .u64 (zb : Int), .int .u64 (zc : Int), .int .u64 (zd : Int)] 65)).drew) := hid (bl_step (al' w8 (.cells #[.int .u64 (za : Int), .int .u64 (zb : Int), .int .u64 (zc : Int), .int .u64 (zd : Int)] 65)) (Below.refl _ _).drew)
            have Ml := hid (Mu.out.keep hUl.out)
            obtain ⟨l0, l1, l2, l3, m0, m1, m2, m3⟩ := cells4p Ml.out.blk
            have hsl : (S ++ p.sets.take k).length ≤ 2100 := by rw [List.length_append, List.length_take]; omega
            have hgsl : gs'.length ≤ 2100 := by
              have := hgl2.out
              omega
            have hkU : Hid (Kept (fun k => k < s) W0 ((w8.alloc (.cells #[.int .u64 (za : Int), .int .u64 (zb : Int), .int .u64 (zc : Int), .int .u64 (zd : Int)] 65)).drew)) := hid (hkr.out.step (Kept.of_below (bl_step hUb.out hUl.out) (F := noBlk)) (fun _ _ h => h.elim))
            have hBU : Hid (Below B w ((w8.alloc (.cells #[.int .u64 (za : Int), .int .u64 (zb : Int), .int .u64 (zc : Int), .int .u64 (zd : Int)] 65)).drew)) := hid (bstep hbl (bl_step hUb.out hUl.out) hM.out.size)
            have hsizeU : ((w8.alloc (.cells #[.int .u64 (za : Int), .int .u64 (zb : Int), .int .u64 (zc : Int), .int .u64 (zd : Int)] 65)).drew).heap.size = w8.heap.size + 1 := by simp
            generalize hS1 : S ++ p.sets.take k = S1 at *
            go_wp2_with fail
            apply collapse
            case h =>
              intro rest
              go_region_law ((first
                | (refine step_append_lies _ (by rfl) (.tmp 66) (.tmp 68) 68 (by rfl) B 65 iS (.agg #[.int .u64 0, .int .u64 0, .int .u64 0, .int .u64 0]) 4 32 Tryz.underlying68 hiS zS0 zS1 zS2 rfl (by decide) (.slice sa' S1.length sc') S1.length (flatS S1) (by rfl) Ml.out.sets ⟨w8.heap.size, 0, none⟩ 1 1 [.int .u64 (za : Int), .int .u64 (zb : Int), .int .u64 (zc : Int), .int .u64 (zd : Int)] (by rfl) (by rfl) (World.news_of_block (w := (w8.alloc (.cells #[.int .u64 (za : Int), .int .u64 (zb : Int), .int .u64 (zc : Int), .int .u64 (zd : Int)] 65)).drew) (heap_new w8 (.cells #[.int .u64 (za : Int), .int .u64 (zb : Int), .int .u64 (zc : Int), .int .u64 (zd : Int)] 65))) (by simp [Value.oneCell']) (by omega) (by (unfold maxLen); omega) (by omega) Ml.out.size (w8.heap.size + 1) hsizeU ?_; intro g5 c5 w5 hown5 hgrow5 hat5 hlt5; have hat5' : ∀ k, (Value.slice (some ⟨g5, 0, none⟩) (S1.length + 1) c5).ownBlock = some k → (Value.slice sa' S1.length sc').ownBlock = some k ∨ ((w8.alloc (.cells #[.int .u64 (za : Int), .int .u64 (zb : Int), .int .u64 (zc : Int), .int .u64 (zd : Int)] 65)).drew).heap.size ≤ k := (fun k e0 => hat5.elim (fun e1 => Or.inl (e1.trans e0)) (fun e1 => Or.inr (by (have e2 : g5 = k := (by injection e0)); omega))); have M5 := hid (Ml.out.addSet (ownS_snoc hown5 rfl) hgrow5 hat5'); obtain ⟨x0, x1, x2, x3, y0, y1, y2, y3⟩ := cells4p (grown_blk hgrow5 Ml.out.blk (fun e0 => (Ml.out.sF _ e0).2.1 rfl)); have hk5 := hid (kept_lowP hkU.out hgrow5 (fun k e0 => (Ml.out.sF k e0).1) hFr.out); have hB5 := hid (bgrow hBU.out hgrow5 Ml.out.size (fun k e0 => (Ml.out.sets.lt k e0).1)); have hF5 : Hid (∀ k, (F' k ∨ (Value.slice (some ⟨g5, 0, none⟩) (S1.length + 1) c5).ownBlock = some k) → k < s ∨ W0.heap.size ≤ k) := hid (fun k hk => hk.elim (hFr.out k) (fun h1 => (hat5' k h1).elim (fun h2 => hFr.out k (Ml.out.sF k h2).1) (fun h2 => Or.inr (Nat.le_trans hkU.out.size h2)))); have hO5 := hid (own_set (pb := pb) (o := 1) (x := .slice (some ⟨g5, 0, none⟩) (S1.length + 1) c5) (own_kept (own_below hO2.out hUl.out) (Kept.of_grown hgrow5) (fun j e0 e1 => Nat.lt_irrefl _ (Nat.lt_of_lt_of_le (hFb.out j (Ml.out.sF j e1).1) (hO2.out.lt j e0).1))) (fun e0 => Nat.lt_irrefl _ (Nat.lt_of_lt_of_le (hFb.out pb Ml.out.inF) (hO2.out.lt pb e0).1))); have hof5 := hid (off_more (v5 := .slice (some ⟨g5, 0, none⟩) (S1.length + 1) c5) hO2.out hFb.out (fun k h1 => (hat5' k h1).elim (fun h2 => Or.inl (Ml.out.sF k h2).1) (fun h2 => Or.inr (by omega)))))
                | fail))
              all_goals
                have hk5' := hid (hk5.out.setCell (a := ⟨pb, 1, none⟩) (v := .slice (some ⟨g5, 0, none⟩) (S1.length + 1) c5) (fun _ => hF0.out _ h0.out.inF))
                have hB5' := hid (bl_set hB5.out pb 1 (.slice (some ⟨g5, 0, none⟩) (S1.length + 1) c5) Ml.out.base)
                have M5' := hid M5.out
                generalize w5.setCell ⟨pb, 1, none⟩ (.slice (some ⟨g5, 0, none⟩) (S1.length + 1) c5) = W5 at M5' hk5' hB5' hO5 ⊢
                obtain ⟨sv5, hsv5⟩ : ∃ v, v = Value.slice (some ⟨g5, 0, none⟩) (S1.length + 1) c5 := ⟨_, rfl⟩
                rw [← hsv5] at M5' hF5 hof5 ⊢
                clear hsv5
                obtain ⟨F5, hF5e⟩ : ∃ F5, F5 = (fun k => F' k ∨ sv5.ownBlock = some k) := ⟨_, rfl⟩
                rw [← hF5e] at M5' hof5
                have hF6 : Hid (∀ k, F5 k → k < s ∨ W0.heap.size ≤ k) := hid (fun k hk => hF5.out k (by rw [hF5e] at hk; exact hk))
                clear hF5e hF5
                have hall := hid (And.intro hO5.out (And.intro hof5.out (And.intro hk5'.out (And.intro hB5'.out (And.intro M5'.out hF6.out)))))
                clear hO5 hof5 hk5' hB5' M5' hF6
                revert hall
                revert W5 sv5 F5
                exact rest.out
            case pf =>
              intro W5 sv5 F5 hall
              obtain ⟨hO5, hof5, hk5', hB5', M5', hF5⟩ := hall.out
              have hO5 := hid hO5
              have hof5 := hid hof5
              have hk5' := hid hk5'
              have hB5' := hid hB5'
              have M5' := hid M5'
              have hF5 := hid hF5
              clear hall
              clear c0 c1 c2 c3 f0 f1 f2 f3 z0 z1 z2 z3 l0 l1 l2 l3 m0 m1 m2 m3 Ml
              obtain ⟨c0, c1, c2, c3, f0, f1, f2, f3⟩ := cells4p M5'.out.blk
              have hal6 := hid (al' W5 (.cells #[(.slice va bl.length vc)] 23))
              have M6 := hid (M5'.out.keep hal6.out)
              have hN6 := hid ((Nums.of_row hO5.out).keep hal6.out)
              have hk6 : Hid (Kept (fun k => k < s) W0 (W5.alloc (.cells #[(.slice va bl.length vc)] 23))) := hid (hk5'.out.step (Kept.of_below hal6.out (F := noBlk)) (fun _ _ h => h.elim))
              have hB6 := hid (bstep hB5'.out hal6.out M5'.out.size)
              have hpW5 := blk_lt M5'.out.blk
              have hpn5 : pb ≠ W5.heap.size := by omega
              go_wp2_with (at_builtin; refine wpList_append_lies _ (by rfl) _ _ _ (by rfl) B 23 iN (.slice none 0 0) 1 24 Tryz.underlying22 hiN zN0 zN1 zN2 rfl (by decide) (.slice ba' gs'.length bc') gs'.length gs' (by rfl) M6.out.beh ⟨W5.heap.size, 0, none⟩ 1 1 [(.slice va bl.length vc)] (by rfl) (by rfl) (World.news_of_block (heap_new W5 (.cells #[(.slice va bl.length vc)] 23))) (by simp [Value.oneCell']) (by omega) (by (unfold maxLen); omega) (by omega) M6.out.size (World.heap (W5.alloc (.cells #[(.slice va bl.length vc)] 23))).size rfl ?_; intro g6 c6 w6 hown6 hgrow6 hat6 hlt6; have hat6' : ∀ k, (Value.slice (some ⟨g6, 0, none⟩) (gs'.length + 1) c6).ownBlock = some k → (Value.slice ba' gs'.length bc').ownBlock = some k ∨ (W5.alloc (.cells #[(.slice va bl.length vc)] 23)).heap.size ≤ k := (fun k e0 => hat6.elim (fun e1 => Or.inl (e1.trans e0)) (fun e1 => Or.inr (by (have e2 : g6 = k := (by injection e0)); omega))); have M7 := hid (M6.out.addBeh hN6.out hof5.out hown6 hgrow6 hat6'); obtain ⟨x0, x1, x2, x3, y0, y1, y2, y3⟩ := cells4p (grown_blk hgrow6 M6.out.blk (fun e0 => (M6.out.bF _ e0).2.1 rfl)); have hk7 := hid ((kept_lowP hk6.out hgrow6 (fun k e0 => (M6.out.bF k e0).1) hF5.out).setCell (a := ⟨pb, 2, none⟩) (v := .slice (some ⟨g6, 0, none⟩) (gs'.length + 1) c6) (fun _ => hF0.out _ h0.out.inF)); have hB7 := hid (bl_set (bgrow hB6.out hgrow6 M6.out.size (fun k e0 => (M6.out.beh.lt k e0).1)) pb 2 (.slice (some ⟨g6, 0, none⟩) (gs'.length + 1) c6) M6.out.base); have hF7 : Hid (∀ k, (_ ∨ (Value.slice (some ⟨g6, 0, none⟩) (gs'.length + 1) c6).ownBlock = some k) → k < s ∨ W0.heap.size ≤ k) := hid (fun k hk => hk.elim (hF5.out k) (fun h1 => (hat6' k h1).elim (fun h2 => hF5.out k (M6.out.bF k h2).1) (fun h2 => Or.inr (Nat.le_trans hk6.out.size h2)))))
              go_roundw
              case rel => exact ⟨k + 1, _, _, _, _, by omega, by go_num, hid (by rw [htk.out, hbg'.out, ← List.append_assoc, ← List.append_assoc, hS1]; exact M7.out), hF7, hk7, hB7.out⟩
              case measure => simp [intOf]; omega
        · have hltz : ¬ (k : Int) < (p.sets.length : Int) := by omega
          obtain rfl : k = p.sets.length := by omega
          have hfinal : Hid (PlX B pb e wr (S ++ p.sets) (G ++ begB S.length en p p.sets.length) FF) := hid ⟨_, _, _, _, _, by have := hM.out; rw [List.take_length] at this; exact this⟩
          go_wp2
          first | go_end0 | skip
          exact ⟨rfl, hfinal.out, hbl⟩

end Go.Proofs.YtonlcnmlklaicaaGreatDoor
namespace Go.Proofs.YtonlcnmlklaicaaGreatDoor
open Go.RowKit

set_option maxRecDepth 20000 in
theorem makeSets (n : Nat) (hn : n ≤ 1000) (w : World) : (Instr.makeSlice 68 (.int .i64 (n : Int)) (.int .i64 (n : Int))).run Tryz.prog w = .ok (.slice (some ⟨w.heap.size, 0, none⟩) n n) (w.alloc (.cells (madeCells #[.int .u64 0, .int .u64 0, .int .u64 0, .int .u64 0] (n * 4)) 65)) := by
  obtain ⟨i0, hi, hz0, hz1, hz2⟩ := info_parts Tryz.infoS4
  have := run_make (P := Tryz.prog) w 68 65 i0 _ Tryz.underlying68 hi hz0 .i64 .i64 (n : Int) (n : Int) (by omega) (Int.le_refl _) (by rw [hz2]; omega) (by omega)
  rw [hz1, Int.toNat_natCast] at this
  exact this
set_option maxRecDepth 20000 in
theorem makeNs (n : Nat) (hn : n ≤ 1000) (w : World) : (Instr.makeSlice 22 (.int .i64 (n : Int)) (.int .i64 (n : Int))).run Tryz.prog w = .ok (.slice (some ⟨w.heap.size, 0, none⟩) n n) (w.alloc (.cells (madeCells #[.slice none 0 0] n) 23)) :=
  run_make_row' (P := Tryz.prog) 22 23 (.slice none 0 0) 24 Tryz.underlying22 Tryz.infoNs rfl .i64 .i64 n (by omega) (by omega) w
theorem flatS_none (n : Nat) : flatS (List.replicate n noneB) = List.replicate (n * 4) (.int .u64 0) := by
  induction n with
  | zero => rfl
  | succ n ih =>
    rw [List.replicate_succ]
    unfold flatS at ih ⊢
    rw [List.flatMap_cons, ih, show (n + 1) * 4 = 4 + n * 4 by omega, ← List.replicate_append_replicate]
    rfl
theorem made4 (n : Nat) : (madeCells #[.int .u64 0, .int .u64 0, .int .u64 0, .int .u64 0] (n * 4)).toList = List.replicate (n * 4) (.int .u64 0) := by
  apply List.ext_getElem?
  intro j
  by_cases hj : j < n * 4
  · have h4 : j % 4 = 0 ∨ j % 4 = 1 ∨ j % 4 = 2 ∨ j % 4 = 3 := by omega
    rcases h4 with h | h | h | h <;> simp [madeCells, hj, h]
  · simp [madeCells, hj]
/-- the places ahead of the first rule -/
theorem PlO.start {W : World} {B pb b1 b2 R : Nat} (hR : R ≤ 1000) (hpb : W.heap[pb]? = some (.cells #[.int .i64 (R : Int), .slice (some ⟨b1, 0, none⟩) R R, .slice (some ⟨b2, 0, none⟩) R R, .slice none 0 0] 70 (0, 0)))
    (h1 : W.heap[b1]? = some (.cells (madeCells #[.int .u64 0, .int .u64 0, .int .u64 0, .int .u64 0] (R * 4)) 65 (0, 0))) (h2 : W.heap[b2]? = some (.cells (madeCells #[.slice none 0 0] R) 23 (0, 0)))
    (e1 : b1 ≠ pb) (e2 : b2 ≠ pb) (e3 : b1 ≠ b2) (g0 : B ≤ pb) (g1 : B ≤ b1) (g2 : B ≤ b2) :
    PlO B pb R (fun k => k < B ∨ k = pb ∨ k = b1 ∨ k = b2) W (.slice (some ⟨b1, 0, none⟩) R R) (.slice (some ⟨b2, 0, none⟩) R R) (.slice none 0 0) (List.replicate R noneB) (List.replicate R nilV) (List.replicate R []) [] where
  blk := hpb
  sets := by
    unfold OwnS
    rw [flatS_none, List.length_replicate]
    refine ⟨by simp, Or.inr ⟨b1, R, _, rfl, g1, h1, Nat.le_refl _, by unfold maxLen; omega, by simp [madeCells], ?_⟩⟩
    rw [made4, List.take_of_length_le (by simp)]
  sF := fun k e => by
    have e' : b1 = k := by injection e
    subst e'
    exact ⟨Or.inr (Or.inr (Or.inl rfl)), e1, fun h => e3 (by injection h with h; exact h.symm), fun h => by cases h⟩
  beh := by
    rw [List.length_replicate]
    refine ⟨by simp, Or.inr ⟨b2, R, _, rfl, g2, h2, Nat.le_refl _, by unfold maxLen; omega, by simp [madeCells], ?_⟩⟩
    rw [toList_madeCells_one, List.take_of_length_le (by simp)]
  bF := fun k e => by
    have e' : b2 = k := by injection e
    subst e'
    exact ⟨Or.inr (Or.inr (Or.inr rfl)), e2, fun h => by cases h⟩
  fir := World.ownsRow_nil _ _ _ _
  fF := fun k e => by cases e
  nums := ⟨by simp, fun j => by
    have a1 : (List.replicate R nilV).getD j nilV = nilV := by
      rw [List.getD_eq_getElem?_getD, List.getElem?_replicate]
      split <;> rfl
    have a2 : (List.replicate R ([] : List Int)).getD j [] = [] := by
      rw [List.getD_eq_getElem?_getD, List.getElem?_replicate]
      split <;> rfl
    rw [a1, a2]
    exact ⟨Nums.nil W, Off.nil _⟩⟩
  inF := Or.inr (Or.inl rfl)
  lt := fun k e => by
    rcases e with e | rfl | rfl | rfl
    · have := blk_lt hpb; omega
    · exact blk_lt hpb
    · exact blk_lt h1
    · exact blk_lt h2
  base := g0
  low := fun k hk => Or.inl hk
theorem heap3 (w : World) (r x y z : Obj) : ((((w.alloc r).alloc x).alloc y).alloc z).drew.heap[w.heap.size + 1]? = some x ∧ ((((w.alloc r).alloc x).alloc y).alloc z).drew.heap[w.heap.size + 1 + 1]? = some y ∧ ((((w.alloc r).alloc x).alloc y).alloc z).drew.heap[w.heap.size + 1 + 1 + 1]? = some z ∧ ((((w.alloc r).alloc x).alloc y).alloc z).drew.heap[w.heap.size]? = some r ∧ Below w.heap.size w ((((w.alloc r).alloc x).alloc y).alloc z).drew := by
  have hs : ∀ (u : World) (o : Obj), (u.alloc o).heap.size = u.heap.size + 1 := fun u o => by simp
  have h1 := heap_new (w.alloc r) x
  have h2 := heap_new ((w.alloc r).alloc x) y
  have h3 := heap_new (((w.alloc r).alloc x).alloc y) z
  have h0 := heap_new w r
  rw [hs] at h1
  rw [hs, hs] at h2
  rw [hs, hs, hs] at h3
  have k1 := (al' (((w.alloc r).alloc x).alloc y) z).drew
  have k2 := bl_step (al' ((w.alloc r).alloc x) y) k1
  have k3 := bl_step (al' (w.alloc r) x) k2
  exact ⟨hs_keep h1 k2, hs_keep h2 k1, h3, hs_keep h0 k3, bl_step (al' w r) k3⟩
/-- what placesOf answers: the places of the rules -/
def PlR (ts : List Rx) (w : World) (sv bv fv : Value) : Prop := ∃ all, SpAll ts all ∧ Sets w sv (setsP all all.length) ∧ Numss w bv (behP all all.length) ∧ Nums w fv (firP all all.length)
theorem setsP_fit {ts : List Rx} {all : List Sp} {L : List (List Cel)} (h : SpAll ts all) (hf : ∀ t ∈ ts, ∀ S ∈ setsL t, Fit4 S) : ∀ m, m ≤ all.length → ∀ S ∈ setsP all m, Fit4 S
  | 0, _, S, hS => by
    rw [setsP] at hS
    rw [List.eq_of_mem_replicate hS]
    exact noneB_fit
  | m + 1, hm, S, hS => by
    rw [setsP, List.mem_append] at hS
    rcases hS with hS | hS
    · exact setsP_fit (L := L) h hf m (by omega) S hS
    · have hm' : m < ts.length := by rw [← h.len]; omega
      obtain ⟨fl, e, _⟩ := h.is m hm'
      rw [e] at hS
      exact hf _ (List.getElem_mem hm') S (by simpa [spOf, setsS] using hS)

end Go.Proofs.YtonlcnmlklaicaaGreatDoor
namespace Go.Proofs.YtonlcnmlklaicaaGreatDoor
open Go.RowKit

def PlS (w : World) (R pb b1 b2 : Nat) (W : World) : Prop := W.heap[pb]? = some (.cells #[.int .i64 (R : Int), .slice (some ⟨b1, 0, none⟩) R R, .slice (some ⟨b2, 0, none⟩) R R, .slice none 0 0] 70 (0, 0)) ∧
  W.heap[b1]? = some (.cells (madeCells #[.int .u64 0, .int .u64 0, .int .u64 0, .int .u64 0] (R * 4)) 65 (0, 0)) ∧ W.heap[b2]? = some (.cells (madeCells #[.slice none 0 0] R) 23 (0, 0)) ∧
  b1 ≠ pb ∧ b2 ≠ pb ∧ b1 ≠ b2 ∧ w.heap.size + 1 ≤ pb ∧ w.heap.size + 1 ≤ b1 ∧ w.heap.size + 1 ≤ b2 ∧ W.heap[w.heap.size]? = some (.cells #[.int .i64 0, .slice none 0 0, .slice none 0 0, .slice none 0 0] 70 (0, 0)) ∧ Below w.heap.size w W
theorem spotsAll_start (R : Nat) : (List.replicate R noSp).length = R ∧ setsP (List.replicate R noSp) 0 = List.replicate R noneB ∧ behP (List.replicate R noSp) 0 = List.replicate R [] ∧ firP (List.replicate R noSp) 0 = [] := by
  refine ⟨by simp, by simp [setsP], by simp [behP], rfl⟩
def putP4 (w : World) (b : Nat) (y0 y1 y2 y3 : Value) : World := (((w.setCell ⟨b, 0, none⟩ y0).setCell ⟨b, 1, none⟩ y1).setCell ⟨b, 2, none⟩ y2).setCell ⟨b, 3, none⟩ y3
theorem putP4_blk {w : World} {b : Nat} {x0 x1 x2 x3 y0 y1 y2 y3 : Value} {T : TypeId} {fr : Nat × Nat} (h : w.heap[b]? = some (.cells #[x0, x1, x2, x3] T fr)) : (putP4 w b y0 y1 y2 y3).heap[b]? = some (.cells #[y0, y1, y2, y3] T fr) := heap_setCell (heap_setCell (heap_setCell (heap_setCell h)))
theorem putP4_kept {F : Nat → Prop} {w u : World} {b : Nat} {y0 y1 y2 y3 : Value} (h : Kept F w u) (hb : F b) : Kept F w (putP4 u b y0 y1 y2 y3) := (((h.setCell fun _ => hb).setCell fun _ => hb).setCell fun _ => hb).setCell fun _ => hb
theorem offP_bd {all : List Sp} : ∀ k, (∀ i, i < k → SmlS (all.getD i noSp)) → offP all k ≤ all.length + k * 60
  | 0, _ => by simp [offP]
  | k + 1, h => by
    have ih := offP_bd k fun i hi => h i (by omega)
    have := (h k (by omega)).sets
    rw [offP]
    omega
theorem firP_bd {all : List Sp} : ∀ k, (∀ i, i < k → SmlS (all.getD i noSp)) → (firP all k).length ≤ k * 61
  | 0, _ => by simp [firP]
  | k + 1, h => by
    have ih := firP_bd k fun i hi => h i (by omega)
    have := (h k (by omega)).first
    rw [firP, List.length_append, List.length_append, List.length_map]
    split <;> simp only [List.length_singleton, List.length_nil] <;> omega
theorem places_step {all : List Sp} {k : Nat} (hk : k < all.length) (p : Sp) : setsP (all.set k p) (k + 1) = setsP all k ++ p.sets ∧ behP (all.set k p) (k + 1) = behP all k ++ begB (setsP all k).length k p p.sets.length ∧ firP (all.set k p) (k + 1) = firP all k ++ (movL (setsP all k).length p.first ++ (if p.null then [(k : Int)] else [])) := by
  have ha := agr_set (a := all) (k := k) p
  have e := set_at hk p
  refine ⟨?_, ?_, ?_⟩
  · rw [setsP, e, ← setsP_congr ha k (Nat.le_refl _)]
  · rw [behP, e, ← behP_congr ha k (Nat.le_refl _), begB_is]
    congr 1
    refine List.map_congr_left fun j _ => ?_
    unfold behOne movL
    rw [e, ← offP_congr ha k (Nat.le_refl _), setsP_len]
  · rw [firP, e, ← firP_congr ha k (Nat.le_refl _), ← offP_congr ha k (Nat.le_refl _), setsP_len]
    rfl
/-- the first k rules' places -/
structure PlK (B pb R k : Nat) (ts : List Rx) (w : World) (all : List Sp) : Prop where
  len : all.length = R
  is : ∀ i t, i < k → ts[i]? = some t → SpAt t (all.getD i noSp)
  pl : PlX B pb R w (setsP all k) (behP all k) (firP all k)
set_option maxRecDepth 20000 in
set_option maxHeartbeats 8000000 in
theorem placesGood (v : Value) (ts : List Rx) (w : World) (hA : Celss w v (ts.map post)) (hn : ts.length ≤ 16) (hok : ∀ t ∈ ts, t.ok ∧ (post t).length ≤ 60) :
    Calls Tryz.prog 26 #[v] w fun z w' => ∃ sv bv fv, z = .returned (.tuple #[.agg #[.int .i64 (ts.length : Int), sv, bv, fv], .int .i64 0]) ∧ PlR ts w' sv bv fv ∧ Below w.heap.size w w' := by
  obtain ⟨aa, ca, rfl, hca, hnil, hat⟩ := hA
  have hlen : (ts.map post).length = ts.length := List.length_map _
  rw [hlen] at hca ⊢
  have hat' : Hid (∀ j, j < ts.length → ∃ b o x t, aa = some ⟨b, o, none⟩ ∧ b < w.heap.size ∧ w.cell? ⟨b, o + j, none⟩ = some x ∧ Cels w x (post t) ∧ t.ok ∧ (post t).length ≤ 60 ∧ ts[j]? = some t ∧ ∀ S ∈ setsL t, Fit4 S) := hid (fun j hj => by
    obtain ⟨b, o, x, h1, h2, h3, h4⟩ := hat j (by rw [hlen]; exact hj)
    rw [List.getElem_map] at h4
    have := hok _ (List.getElem_mem hj)
    exact ⟨b, o, x, ts[j], h1, h2, h3, h4, this.1, this.2, List.getElem?_eq_getElem hj, fun S hS => by obtain ⟨_, _, _, _, _, hF, _⟩ := h4; exact (hF _ (setsL_post ts[j] S hS)).3⟩)
  clear hat hnil hca hlen hok
  generalize hR : ts.length = R at *
  have hR' := hid hR
  clear hR
  have m1 := makeSets R (by omega)
  have m2 := makeNs R (by omega)
  have hnz : ¬ (16 : Int) < (R : Int) := by omega
  go_enter Tryz.func26, Tryz.ntmps26
  go_wp2_with fail
  apply collapse
  case h =>
    intro rest
    go_region
    all_goals first
      | exact rest.out _ _ _ _ (hid ⟨by first | exact (heap3 w _ _ _ _).1 | exact (heap3 w _ _ _ _).2.1 | exact (heap3 w _ _ _ _).2.2.1, by first | exact (heap3 w _ _ _ _).1 | exact (heap3 w _ _ _ _).2.1 | exact (heap3 w _ _ _ _).2.2.1, by first | exact (heap3 w _ _ _ _).1 | exact (heap3 w _ _ _ _).2.1 | exact (heap3 w _ _ _ _).2.2.1, by omega, by omega, by omega, by omega, by omega, by omega, (heap3 w _ _ _ _).2.2.2.1, (heap3 w _ _ _ _).2.2.2.2⟩)
      | (have hall : Hid (PlS w R (w.heap.size + 1 + 1 + 1) (w.heap.size + 1) (w.heap.size + 1 + 1) ((((w.alloc (.cells #[.int .i64 0, .slice none 0 0, .slice none 0 0, .slice none 0 0] 70)).alloc (.cells (madeCells #[.int .u64 0, .int .u64 0, .int .u64 0, .int .u64 0] (R * 4)) 65)).alloc (.cells (madeCells #[.slice none 0 0] R) 23)).alloc (.cells #[.int .i64 (R : Int), .slice (some ⟨w.heap.size + 1, 0, none⟩) R R, .slice (some ⟨w.heap.size + 1 + 1, 0, none⟩) R R, .slice none 0 0] 70)).drew) := hid ⟨(heap3 w _ _ _ _).2.2.1, (heap3 w _ _ _ _).1, (heap3 w _ _ _ _).2.1, by omega, by omega, by omega, by omega, by omega, by omega, (heap3 w _ _ _ _).2.2.2.1, (heap3 w _ _ _ _).2.2.2.2⟩
         generalize ((((w.alloc (.cells #[.int .i64 0, .slice none 0 0, .slice none 0 0, .slice none 0 0] 70)).alloc (.cells (madeCells #[.int .u64 0, .int .u64 0, .int .u64 0, .int .u64 0] (R * 4)) 65)).alloc (.cells (madeCells #[.slice none 0 0] R) 23)).alloc (.cells #[.int .i64 (R : Int), .slice (some ⟨w.heap.size + 1, 0, none⟩) R R, .slice (some ⟨w.heap.size + 1 + 1, 0, none⟩) R R, .slice none 0 0] 70)).drew = W at hall ⊢
         generalize w.heap.size + 1 + 1 + 1 = pb at hall ⊢
         generalize w.heap.size + 1 + 1 = b2 at hall ⊢
         generalize w.heap.size + 1 = b1 at hall ⊢
         revert hall
         revert W pb b1 b2
         exact rest.out)
  case pf =>
    intro W pb b2 b1 hall
    obtain ⟨q1, q2, q3, e1, e2, e3, g0, g1, g2, hz, hbW⟩ := hall.out
    obtain ⟨t1, t2, t3, t4⟩ := spotsAll_start R
    have hK0 : Hid (PlK (w.heap.size + 1) pb R 0 ts W (List.replicate R noSp)) := hid ⟨t1, fun i t hi => absurd hi (Nat.not_lt_zero _), by rw [t2, t3, t4]; exact ⟨_, _, _, _, _, PlO.start (by omega) q1 q2 q3 e1 e2 e3 g0 g1 g2⟩⟩
    have hbW := hid hbW
    have hz := hid hz
    have hWs : w.heap.size + 1 ≤ W.heap.size := by have := blk_lt hz.out; omega
    have hpW := blk_lt q1
    clear hall q1 q2 q3 e1 e2 e3 g1 g2 t1 t2 t3 t4 m1 m2
    go_wp2_with fail
    go_loopw [24] (fun i wr => ∃ (k : Nat) (all : List Sp), k ≤ R ∧ i = .int .i64 k ∧ Hid (PlK (w.heap.size + 1) pb R k ts wr all) ∧ Below (w.heap.size + 1) W wr) (fun i _ => R - (intOf i).toNat)
    case atStart => exact ⟨0, _, Nat.zero_le _, rfl, hK0, (Below.refl _ _).mono hWs⟩
    case round =>
      obtain ⟨k, all, hk, rfl, hK, hbl⟩ := hrel
      have hsz := hbl.size
      have hblw : Hid (Below w.heap.size w wr) := hid (hbW.out.trans (hbl.mono (by omega)))
      by_cases hlt : k < R
      · have hltz : (k : Int) < (R : Int) := by omega
        obtain ⟨b, o, x, t, rfl, hb, hx, hC, hto, h60, hts, hfit⟩ := hat'.out k hlt
        have hx' := keep_cell hblw.out hx
        have GS := hid (sofGood x t wr (hC.keep hblw.out) hto h60)
        have hsm : Hid (∀ i, i < k → SmlS (all.getD i noSp)) := hid (fun i hi => by
          obtain ⟨_, _, _, t', _, _, _, _, _, h60', hts', _⟩ := hat'.out i (by omega)
          exact (hK.out.is i t' hi hts').sml h60')
        have hob := offP_bd k hsm.out
        have hfb := firP_bd k hsm.out
        rw [hK.out.len] at hob
        obtain ⟨F, sv, bv, fv, gs, hM⟩ := hK.out.pl
        have hM := hid hM
        have hgl : gs.length ≤ 2000 := by rw [hM.out.nums.1, behP_len]; omega
        have hSl : (setsP all k).length ≤ 2000 := by rw [setsP_len]; omega
        have hnext : Hid (∀ p w3, SpAt t p → PlX (w.heap.size + 1) pb R w3 (setsP all k ++ p.sets) (behP all k ++ begB (setsP all k).length k p p.sets.length) (firP all k ++ (movL (setsP all k).length p.first ++ (if p.null then [(k : Int)] else []))) → PlK (w.heap.size + 1) pb R (k + 1) ts w3 (all.set k p)) := hid (fun p w3 hp h3 => by
          have hka : k < all.length := by rw [hK.out.len]; exact hlt
          obtain ⟨s1, s2, s3⟩ := places_step hka p
          refine ⟨by rw [List.length_set]; exact hK.out.len, fun i t' hi ht' => ?_, by rw [s1, s2, s3]; exact h3⟩
          by_cases e : i = k
          · subst e
            rw [set_at hka, show t' = t from by rw [hts] at ht'; injection ht' with ht'; exact ht'.symm]
            exact hp
          · rw [← (agr_set (a := all) (k := k) p).2 i (by omega)]
            exact hK.out.is i t' (by omega) ht')
        have GA := hid (fun rs rf rl rg fl w2 (h0 : Below wr.heap.size wr w2) (h1 : SpVF (fun k => k < wr.heap.size) w2 rs rf rl rg (spOf t fl)) (h2 : FolOK (FolS [t]) (nS [t]) fl) => addC (w.heap.size + 1) pb R wr.heap.size k F sv bv fv (setsP all k) gs (behP all k) (firP all k) (spOf t fl) rs rf rl rg w2 (hM.out.keep h0) h0.size hM.out.lt h1 (SpAt.sml ⟨fl, rfl, h2⟩ h60) hSl hgl (by omega) (by omega))
        have hshape : Hid (∀ u rs rf rl rg fl, SpVF (fun k => k < wr.heap.size) u rs rf rl rg (spOf t fl) → (∃ a c, rs = .slice a (setsS [t]).length c) ∧ (∃ a c, rf = .slice a (firstL t 0).length c) ∧ (∃ a c, rl = .slice a (lastL t 0).length c) ∧ (∃ a c, rg = .slice a fl.length c)) := hid (fun u rs rf rl rg fl h => by
          obtain ⟨a1, c1, e1, _⟩ := h.spv.sets
          obtain ⟨a2, c2, e2, _⟩ := h.spv.first
          obtain ⟨a3, c3, e3, _⟩ := h.spv.last
          obtain ⟨a4, c4, e4, _⟩ := h.spv.follow
          exact ⟨⟨a1, c1, e1⟩, ⟨a2, c2, e2⟩, ⟨a3, c3, e3⟩, ⟨a4, c4, e4⟩⟩)
        have hBs : w.heap.size + 1 ≤ wr.heap.size := by omega
        clear hob hfb hgl hSl hC hx hfit
        generalize hns : (setsS [t]).length = ns at hshape
        generalize hnf : (firstL t 0).length = nf at hshape
        generalize hnl : (lastL t 0).length = nl at hshape
        clear hns hnf hnl
        go_wp2_with (first
          | (go_at_call 35; refine GS.out.mono ?_; rintro z w1 ⟨rs, rf, rl, rg, fl, rfl, hV, hF, hb1⟩; have hF := hid hF; have hV := hid hV; obtain ⟨⟨ra, rc, rfl⟩, ⟨fa, fc, rfl⟩, ⟨la, lc, rfl⟩, ⟨ga, gc, rfl⟩⟩ := hshape.out _ _ _ _ _ _ hV.out; have hal1 := hid (al' w1 (.cells #[.slice ra ns rc, .bool t.null, .slice fa nf fc, .slice la nl lc, .slice ga fl.length gc] 88)); have G2 := hid (GA.out _ _ _ _ fl _ (bl_step hb1 hal1.out) (hV.out.keep hal1.out) hF.out))
          | (go_at_call 36; refine G2.out.mono ?_; rintro z w3 ⟨rfl, hX3, hb3⟩; have hK3 := hid (hnext.out (spOf t fl) w3 ⟨fl, rfl, hF.out⟩ hX3); have hb3' := hid (hbl.trans (((bl_step hb1 hal1.out).mono hBs).trans hb3))))
        go_roundw
        case rel => exact ⟨k + 1, _, by omega, by go_num, hK3, hb3'.out⟩
        case measure => simp [intOf]; omega
      · have hltz : ¬ (k : Int) < (R : Int) := by omega
        obtain rfl : k = R := by omega
        obtain ⟨F, sv, bv, fv, gs, hM⟩ := hK.out.pl
        have hM := hid hM
        have hAll : Hid (SpAll ts all) := hid ⟨by rw [hK.out.len, hR'.out], fun r hr => hK.out.is r _ (by rw [← hR'.out]; exact hr) (List.getElem?_eq_getElem hr)⟩
        have hfitA : Hid (∀ S ∈ setsP all all.length, Fit4 S) := hid (setsP_fit (L := []) hAll.out (fun t ht => by
          obtain ⟨j, hj, rfl⟩ := List.getElem_of_mem ht
          obtain ⟨_, _, _, t', _, _, _, _, _, _, hts', hf'⟩ := hat'.out j (by rw [← hR'.out]; exact hj)
          rw [List.getElem?_eq_getElem hj] at hts'
          injection hts' with hts'
          rw [hts']
          exact hf') all.length (Nat.le_refl _))
        have hal : Hid (all.length = k) := hid hK.out.len
        obtain ⟨sa, sc, rfl⟩ := own_shape hM.out.sets
        obtain ⟨ba, bc, rfl⟩ := own_shape hM.out.beh
        obtain ⟨fa, fc, rfl⟩ := own_shape hM.out.fir
        have hz1 := (hbl.block w.heap.size (by omega)).trans hz.out
        obtain ⟨c0, c1, c2, c3, -⟩ := cells4p hM.out.blk
        obtain ⟨x0, x1, x2, x3, y0, y1, y2, y3⟩ := cells4p hz1
        have hfb := putP4_blk (y0 := .int .i64 (k : Int)) (y1 := .slice sa (setsP all k).length sc) (y2 := .slice ba gs.length bc) (y3 := .slice fa (firP all k).length fc) hz1
        obtain ⟨r0, r1, r2, r3, -⟩ := cells4p hfb
        unfold putP4 at r0 r1 r2 r3
        have hKf : Hid (Kept (oneBlk w.heap.size) wr (putP4 wr w.heap.size (.int .i64 (k : Int)) (.slice sa (setsP all k).length sc) (.slice ba gs.length bc) (.slice fa (firP all k).length fc))) := hid (putP4_kept (Kept.refl _ _) rfl)
        have hend : Hid (∀ u, Kept (oneBlk w.heap.size) wr u → PlR ts u (.slice sa (setsP all k).length sc) (.slice ba gs.length bc) (.slice fa (firP all k).length fc) ∧ Below w.heap.size w u) := hid (fun u hu => by
          have huF : Kept F wr u := hu.mono fun j _ e => by have e' : j = w.heap.size := e; rw [e']; exact hM.out.low _ (by omega)
          refine ⟨⟨all, hAll.out, ?_, ?_, ?_⟩, hblw.out.trans (hu.below (fun j e => ?_) hblw.out.size)⟩
          · rw [hal.out]
            rw [hal.out] at hfitA
            exact Sets.of_own (own_kept hM.out.sets hu (fun j e e' => by have e2 : j = w.heap.size := e'; have := (hM.out.sets.lt j e).1; omega)) hfitA.out
          · rw [hal.out]
            exact numss_of (F := F) (own_kept hM.out.beh hu (fun j e e' => by have e2 : j = w.heap.size := e'; have := (hM.out.beh.lt j e).1; omega)) (hM.out.nums.kept huF)
          · rw [hal.out]
            exact Nums.of_row (own_kept hM.out.fir hu (fun j e e' => by have e2 : j = w.heap.size := e'; have := (hM.out.fir.lt j e).1; omega))
          · have e' : j = w.heap.size := e
            omega)
        clear hz1 hfb
        go_wp2
        obtain ⟨E1, E2⟩ := hend.out _ hKf.out
        exact bodyPost_ret (v := .tuple #[.agg #[.int .i64 (k : Int), .slice sa (setsP all k).length sc, .slice ba gs.length bc, .slice fa (firP all k).length fc], .int .i64 0]) (by simp [results, Tryz.results26, go_sem, r0, r1, r2, r3]) rfl ⟨_, _, _, rfl, E1, E2⟩

end Go.Proofs.YtonlcnmlklaicaaGreatDoor
namespace Go.Proofs.YtonlcnmlklaicaaGreatDoor
open Go.RowKit

/-- D: the blocks of the automaton; F: those of the states that were met -/
structure DfO (B db : Nat) (D F : Nat → Prop) (w : World) (nv av : Value) (vs : List Value) (N : List (List Int)) (A : List Int) : Prop where
  blk : w.heap[db]? = some (.cells #[nv, av] 25 (0, 0))
  nxt : w.ownsRow B 23 1 nv vs.length vs
  nF : ∀ k, nv.ownBlock = some k → D k ∧ k ≠ db ∧ av.ownBlock ≠ some k
  acc : Own w B av A
  aF : ∀ k, av.ownBlock = some k → D k ∧ k ≠ db
  nums : NumsF (fun k => D k ∨ F k) w vs N
  inD : D db
  lt : ∀ k, D k → k < w.heap.size
  apart : ∀ k, D k → ¬ F k
  base : B ≤ db
theorem DfO.size {B db : Nat} {D F : Nat → Prop} {w : World} {nv av : Value} {vs : List Value} {N : List (List Int)} {A : List Int} (h : DfO B db D F w nv av vs N A) : B ≤ w.heap.size := Nat.le_of_lt (Nat.lt_of_le_of_lt h.base (blk_lt h.blk))
theorem DfO.keep {B db : Nat} {D F : Nat → Prop} {w u : World} {nv av : Value} {vs : List Value} {N : List (List Int)} {A : List Int} (h : DfO B db D F w nv av vs N A) (hu : Below w.heap.size w u) : DfO B db D F u nv av vs N A :=
  ⟨hs_keep h.blk hu, own_below h.nxt hu, h.nF, own_below h.acc hu, h.aF, h.nums.kept (Kept.of_below hu), h.inD, fun k hk => Nat.lt_of_lt_of_le (h.lt k hk) hu.size, h.apart, h.base⟩
/-- lists that lay in w lie off what is new since then -/
theorem NumsF.off {F G : Nat → Prop} {w u : World} {vs : List Value} {ls : List (List Int)} (h : NumsF F u vs ls) (hG : ∀ k, G k → F k ∨ w.heap.size ≤ k) (h0 : NumsF F w vs ls) : NumsF G u vs ls :=
  ⟨h.1, fun j => ⟨(h.2 j).1, (h0.2 j).2.more (h0.2 j).1 hG⟩⟩
/-- the states that were met have changed -/
theorem DfO.moved {B db : Nat} {D F F' : Nat → Prop} {w u : World} {nv av : Value} {vs : List Value} {N : List (List Int)} {A : List Int} (h : DfO B db D F w nv av vs N A) (hu : Mvd F F' w u) : DfO B db D F' u nv av vs N A :=
  ⟨hu.kept.blk h.blk (h.apart _ h.inD), own_kept h.nxt hu.kept (fun k e => h.apart k (h.nF k e).1), h.nF, own_kept h.acc hu.kept (fun k e => h.apart k (h.aF k e).1), h.aF,
    (h.nums.kept (hu.kept.mono fun k _ e => Or.inr e)).off (fun k hk => by
      rcases hk with h1 | h1
      · exact Or.inl (Or.inl h1)
      · rcases hu.new k h1 with h2 | h2
        · exact Or.inl (Or.inr h2)
        · exact Or.inr h2) h.nums,
    h.inD, fun k hk => Nat.lt_of_lt_of_le (h.lt k hk) hu.kept.size, fun k hk hf => by
      rcases hu.new k hf with h2 | h2
      · exact h.apart k hk h2
      · have := h.lt k hk; omega, h.base⟩
/-- one row more -/
theorem DfO.addRow {B db : Nat} {D F : Nat → Prop} {u w' : World} {nv av v' x : Value} {vs : List Value} {N : List (List Int)} {A l : List Int} (h : DfO B db D F u nv av vs N A) (hFl : ∀ k, F k → k < u.heap.size) (hx : Nums u x l) (hxo : Off (fun k => D k ∨ F k) x)
    (ho : w'.ownsRow B 23 1 v' (vs.length + 1) (vs ++ [x])) (hg : u.grownBy w' nv.ownBlock) (hat : ∀ k, v'.ownBlock = some k → nv.ownBlock = some k ∨ u.heap.size ≤ k) :
    DfO B db (fun k => D k ∨ v'.ownBlock = some k) F (w'.setCell ⟨db, 0, none⟩ v') v' av (vs ++ [x]) (N ++ [l]) A ∧ Kept (fun k => D k) u (w'.setCell ⟨db, 0, none⟩ v') := by
  have hk := Kept.of_grown hg
  have hdb : ¬ nv.ownBlock = some db := fun e => (h.nF _ e).2.1 rfl
  have hb1 := hk.blk h.blk hdb
  have hpv : v'.ownBlock ≠ some db := fun e => by
    rcases hat _ e with h1 | h1
    · exact hdb h1
    · have := blk_lt h.blk; omega
  have hkD : Kept (fun k => D k) u (w'.setCell ⟨db, 0, none⟩ v') := (hk.mono fun k _ e => (h.nF k e).1).setCell fun _ => h.inD
  have hlen : (vs ++ [x]).length = vs.length + 1 := by simp
  refine ⟨⟨heap_setCell hb1, by rw [hlen]; exact own_set ho hpv, fun k e => ⟨Or.inr e, fun e' => hpv (by rw [← e']; exact e), fun e' => ?_⟩, own_set (own_kept h.acc hk fun k e e' => (h.nF k e').2.2 e) (fun e => (h.aF _ e).2 rfl), fun k e => ⟨Or.inl (h.aF k e).1, (h.aF k e).2⟩, ?_, Or.inl h.inD, fun k hk' => ?_, fun k hk' hf => ?_, h.base⟩, hkD⟩
  · rcases hat k e with h1 | h1
    · exact (h.nF k h1).2.2 e'
    · have := (h.acc.lt k e').2; omega
  · refine ((h.nums.snoc hx hxo).kept (hkD.mono fun k _ e => Or.inl e)).off (fun k hk' => ?_) (h.nums.snoc hx hxo)
    rcases hk' with (h1 | h1) | h1
    · exact Or.inl (Or.inl h1)
    · rcases hat k h1 with h2 | h2
      · exact Or.inl (Or.inl (h.nF k h2).1)
      · exact Or.inr h2
    · exact Or.inl (Or.inr h1)
  · rcases hk' with h1 | h1
    · exact Nat.lt_of_lt_of_le (h.lt k h1) hkD.size
    · have := (ho.lt k h1).2; simpa using this
  · rcases hk' with h1 | h1
    · exact h.apart k h1 hf
    · rcases hat k h1 with h2 | h2
      · exact h.apart k (h.nF k h2).1 hf
      · have := hFl k hf; omega
/-- one number more -/
theorem DfO.addAcc {B db : Nat} {D F : Nat → Prop} {u w' : World} {nv av v' : Value} {vs : List Value} {N : List (List Int)} {A A' : List Int} (h : DfO B db D F u nv av vs N A) (hFl : ∀ k, F k → k < u.heap.size)
    (ho : Own w' B v' A') (hg : u.grownBy w' av.ownBlock) (hat : ∀ k, v'.ownBlock = some k → av.ownBlock = some k ∨ u.heap.size ≤ k) :
    DfO B db (fun k => D k ∨ v'.ownBlock = some k) F (w'.setCell ⟨db, 1, none⟩ v') nv v' vs N A' ∧ Kept (fun k => D k) u (w'.setCell ⟨db, 1, none⟩ v') := by
  have hk := Kept.of_grown hg
  have hdb : ¬ av.ownBlock = some db := fun e => (h.aF _ e).2 rfl
  have hb1 := hk.blk h.blk hdb
  have hpv : v'.ownBlock ≠ some db := fun e => by
    rcases hat _ e with h1 | h1
    · exact hdb h1
    · have := blk_lt h.blk; omega
  have hkD : Kept (fun k => D k) u (w'.setCell ⟨db, 1, none⟩ v') := (hk.mono fun k _ e => (h.aF k e).1).setCell fun _ => h.inD
  refine ⟨⟨heap_setCell hb1, own_set (own_kept h.nxt hk fun k e e' => (h.nF k e).2.2 e') (fun e => (h.nF _ e).2.1 rfl), fun k e => ⟨Or.inl (h.nF k e).1, (h.nF k e).2.1, fun e' => ?_⟩, own_set ho hpv, fun k e => ⟨Or.inr e, fun e' => hpv (by rw [← e']; exact e)⟩, ?_, Or.inl h.inD, fun k hk' => ?_, fun k hk' hf => ?_, h.base⟩, hkD⟩
  · rcases hat k e' with h1 | h1
    · exact (h.nF k e).2.2 h1
    · have := (h.nxt.lt k e).2; omega
  · refine (h.nums.kept (hkD.mono fun k _ e => Or.inl e)).off (fun k hk' => ?_) h.nums
    rcases hk' with (h1 | h1) | h1
    · exact Or.inl (Or.inl h1)
    · rcases hat k h1 with h2 | h2
      · exact Or.inl (Or.inl (h.aF k h2).1)
      · exact Or.inr h2
    · exact Or.inl (Or.inr h1)
  · rcases hk' with h1 | h1
    · exact Nat.lt_of_lt_of_le (h.lt k h1) hkD.size
    · have := (ho.lt k h1).2; simpa using this
  · rcases hk' with h1 | h1
    · exact h.apart k h1 hf
    · rcases hat k h1 with h2 | h2
      · exact h.apart k (h.aF k h2).1 hf
      · have := hFl k hf; omega

end Go.Proofs.YtonlcnmlklaicaaGreatDoor
