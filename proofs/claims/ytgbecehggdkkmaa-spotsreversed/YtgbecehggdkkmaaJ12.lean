/- The reference: Has. The reference: fitsAt of a set. -/
import Derived.Test.YtgbecehggdkkmaaJ2
import Derived.Test.YtgbecehggdkkmaaJ11
import Derived.Deep.RegionHeld3
import Derived.Deep.RegionLaw
import Derived.Deep.OwnRows
import Derived.BigRegion
namespace Go.Proofs.Ytgbecehggdkkmaa
open Go.RowKit

theorem refHas (a b c d x : Nat) (w : World) (hS : Fit4 ⟨a, b, c, d⟩) (hx : x < 256) :
    Calls Try.prog 39 #[.agg #[.int .u64 a, .int .u64 b, .int .u64 c, .int .u64 d], .int .i64 x] w fun e w' => e = .returned (.bool (hasB ⟨a, b, c, d⟩ x)) ∧ Below w.heap.size w w' := by
  have hcell := word_at a b c d (x / 64) (by omega)
  have hdiv := hasB_div ⟨a, b, c, d⟩ x
  have hn := hS.w (x / 64)
  have hp := wrap_pow (j := x % 64) (by omega)
  have hm0 : 0 < 2 ^ (x % 64) := Nat.two_pow_pos _
  generalize W4.w ⟨a, b, c, d⟩ (x / 64) = n at hcell hdiv hn
  generalize hasB ⟨a, b, c, d⟩ x = r at hdiv ⊢
  generalize 2 ^ (x % 64) = m at hp hm0 hdiv
  have hq := wrap_quo (m := m) hn
  have hr := rem_two (n / m)
  rw [← hdiv] at hr
  generalize n / m = q at hq hr hdiv
  have hm1 : ¬ (m : Int) = 0 := by omega
  clear hdiv hS
  go_enter Try.func39, Try.ntmps39
  go_wp2
  go_ret
  exact ⟨by first | rfl | rw [hr], (Below.refl _ w).alloc (Nat.le_refl _) _⟩



theorem hasC (S : W4) (x : Nat) (w : World) (hS : Fit4 S) (hx : x < 256) : Calls Try.prog 39 #[valB S, .int .i64 x] w fun e w' => e = .returned (.bool (hasB S x)) ∧ Below w.heap.size w w' :=
  refHas S.a S.b S.c S.d x w hS hx
end Go.Proofs.Ytgbecehggdkkmaa
namespace Go.Proofs.Ytgbecehggdkkmaa
open Go.RowKit

theorem bls_at {w : World} {a : Option Addr} {l : List Bool} {cap : Nat} (h : Bls w (.slice a l.length cap) l) {j : Nat} (hj : j < l.length) : ∃ b o, a = some ⟨b, o, none⟩ ∧ b < w.heap.size ∧ w.cell? ⟨b, o + j, none⟩ = some (.bool l[j]) := by
  obtain ⟨a', c', e, _, _, h⟩ := h
  injection e with e1 e2 e3
  subst e1
  exact h j hj
theorem OwnT.at {w : World} {B g c n : Nat} {l : List Bool} (h : OwnT w B (.slice (some ⟨g, 0, none⟩) n c) l) {j : Nat} {x : Bool} (hj : l[j]? = some x) : w.cell? ⟨g, j, none⟩ = some (.bool x) := by
  have := h.cells rfl j (.bool x) (by rw [List.getElem?_map, hj]; rfl)
  rw [Go.WideShapes.add_plain] at this
  simpa using this
theorem OwnT.free {w : World} {B g c n : Nat} {l : List Bool} (h : OwnT w B (.slice (some ⟨g, 0, none⟩) n c) l) (hn : n = l.length) (o : Nat) : w.frozen? ⟨g, o, none⟩ = false := by
  subst hn
  exact h.frozenAt o

theorem OwnT.put_n {w : World} {B g c k n : Nat} {l : List Bool} (x : Bool) (h : OwnT w B (.slice (some ⟨g, 0, none⟩) n c) l) (hn : n = l.length) : OwnT (w.setCell ⟨g, k, none⟩ (.bool x)) B (.slice (some ⟨g, 0, none⟩) n c) (l.set k x) := by
  subst hn
  exact h.put x
theorem keep_free {u w1 : World} (hb : Below u.drew.heap.size u.drew w1) {b o : Nat} {v : Value} (h : u.cell? ⟨b, o, none⟩ = some v) (hf : u.frozen? ⟨b, o, none⟩ = false) : w1.frozen? ⟨b, o, none⟩ = false := by
  have := hb.block b (World.block_lt_of_cell? u _ h)
  unfold World.frozen? at hf ⊢
  rw [this]
  exact hf
theorem set_keep {w : World} {b o q : Nat} {u v : Value} (m : Nat) (h : w.cell? ⟨b, o, none⟩ = some u) (hn : b ≠ q) : (w.setCell ⟨q, m, none⟩ v).cell? ⟨b, o, none⟩ = some u :=
  (World.cell?_setCell_other _ _ _ _ (by intro e; injection e with e1; exact hn e1.symm)).trans h
theorem bls_n {w : World} {B g c n : Nat} {l : List Bool} (h : OwnT w B (.slice (some ⟨g, 0, none⟩) n c) l) (hn : n = l.length) : Bls w (.slice (some ⟨g, 0, none⟩) n c) l := by
  subst hn
  exact Bls.of_own h
theorem new_blk (w : World) (o n c : Nat) : ∀ k, (Value.slice (some ⟨w.heap.size, o, none⟩) n c).ownBlock = some k → w.heap.size ≤ k := by
  intro k hk
  have : some w.heap.size = some k := hk
  injection this with this
  omega
theorem Bls.blk {w w' : World} {v : Value} {l : List Bool} (h : Bls w v l) (hs : w.heap.size ≤ w'.heap.size) (hb : ∀ k, v.ownBlock = some k → w'.heap[k]? = w.heap[k]?) : Bls w' v l := by
  obtain ⟨a, cap, rfl, hc, hn, hat⟩ := h
  refine ⟨a, cap, rfl, hc, hn, fun j hj => ?_⟩
  obtain ⟨b, o, rfl, hlt, h1⟩ := hat j hj
  exact ⟨b, o, rfl, Nat.lt_of_lt_of_le hlt hs, (World.cell?_of_block (a := ⟨b, o + j, none⟩) (hb b rfl)).trans h1⟩
theorem Bls.set {w : World} {v x : Value} {l : List Bool} {g m : Nat} (h : Bls w v l) (hn : v.ownBlock ≠ some g) : Bls (w.setCell ⟨g, m, none⟩ x) v l :=
  h.blk (by simp) fun k hk => Below.heap_setCell w ⟨g, m, none⟩ x k (fun e => hn (hk.trans (congrArg some e)))
theorem Bls.lt {w : World} {v : Value} {l : List Bool} (h : Bls w v l) (hl : 0 < l.length) : ∀ k, v.ownBlock = some k → k < w.heap.size := by
  obtain ⟨a, cap, rfl, _, _, hat⟩ := h
  obtain ⟨b, o, rfl, hlt, _⟩ := hat 0 hl
  intro k hk
  have : some b = some k := hk
  injection this with this
  omega
theorem own_made (w : World) (N : Nat) (F : Nat → Bool) (hN : N ≤ 2000) (h0 : F 0 = false) : OwnT (w.alloc (.cells (madeCells #[.bool false] N) 4)) w.heap.size (.slice (some ⟨w.heap.size, 0, none⟩) N N) (tabK N 1 F) := by
  have e := made_false N
  rw [Nat.mul_one, show (Value.bool false).cells = #[.bool false] from rfl] at e
  have h := World.ownsRow_lit (e := 4) (base := w.heap.size) (size := 1) w (madeCells #[.bool false] N) N (Nat.le_refl _) (by unfold maxLen; omega) (by rw [← Array.length_toList, e]; simp)
  rw [e] at h
  unfold OwnT
  rw [tabK_one N F h0, List.length_replicate]
  exact h

set_option maxRecDepth 20000 in
set_option maxHeartbeats 4000000 in
theorem fitsSet (v fv : Value) (l : List Cel) (J : Nat) (a b c d : Nat) (s : Txt) (bs : List Bool) (w : World) (hA : Cels w v l) (_hl : l.length ≤ 60) (hc : l[J]? = some ⟨1, ⟨a, b, c, d⟩⟩) (hB : Bls w fv bs) (hn : bs.length = s.length + 1) (hs : s.length ≤ 1000) :
    Calls Try.prog 36 #[v, .int .i64 (J : Int), .string (strT s), fv] w fun e w' => ∃ v', e = .returned v' ∧ Bls w' v' (tabK (s.length + 1) (s.length + 1) (setF ⟨a, b, c, d⟩ s bs)) ∧ (∀ k, v'.ownBlock = some k → w.heap.size ≤ k) ∧ Below w.heap.size w w' := by
  obtain ⟨i0, hi, hz0, hz1, hz2⟩ := info_parts Try.info4
  obtain ⟨av, cv, rfl, _, _, hfc, hAt⟩ := hA
  obtain ⟨hjl, b', o', rfl, d0, d1, d2, d3, d4⟩ := cel_at hAt hc
  have hfit := (hfc _ (List.mem_of_getElem? hc)).s
  have hblt := World.block_lt_of_cell? w _ d0
  obtain ⟨fa, fc, rfl⟩ := hB.shape
  have hjz : (J : Int) < (l.length : Int) := by omega
  have hB0 := hid hB
  have hsz := strT_size s
  have hN : Hid (∀ k (h : k < s.length), bs[k]? = some (bs[k]'(by omega)) ∧ setF ⟨a, b, c, d⟩ s bs (k + 1) = (bs[k]'(by omega) && hasB ⟨a, b, c, d⟩ s[k].toNat)) := hid (fun k h => by
    have h' : k < bs.length := by omega
    refine ⟨List.getElem?_eq_getElem h', ?_⟩
    simp only [setF, List.getD_eq_getElem?_getD, List.getElem?_eq_getElem h', List.getElem?_eq_getElem h, Option.getD_some])
  have hf0 : Hid (setF ⟨a, b, c, d⟩ s bs 0 = false) := hid rfl
  have GH := hid (fun x u hx => refHas a b c d x u hfit hx)
  clear hAt hc hfc hB
  have hbn : bs.length ≤ 1001 := by omega
  rw [← hn]
  generalize setF ⟨a, b, c, d⟩ s bs = F at hN hf0 ⊢
  generalize hbN : bs.length = N at hbn ⊢
  have hmk := run_make_row' (P := Try.prog) 63 4 (.bool false) 1 Try.underlying63 Try.info4 rfl .i64 .i64 N (by omega) (by omega)
  have hal := hid (al' w (.cells (madeCells #[.bool false] N) 4))
  have e0 := keep_cell hal.out d0
  have hO0 : Hid (OwnT (w.alloc (.cells (madeCells #[.bool false] N) 4)) w.heap.size (.slice (some ⟨w.heap.size, 0, none⟩) N N) (tabK N 1 F)) := hid (own_made w N F (by omega) hf0.out)
  go_enter Try.func36, Try.ntmps36
  go_wp2
  clear hmk e0
  go_loopw [10] (fun i wr => ∃ k : Nat, k ≤ s.length ∧ i = .int .i64 k ∧ Hid (OwnT wr w.heap.size (.slice (some ⟨w.heap.size, 0, none⟩) N N) (tabK N (k + 1) F)) ∧ Below w.heap.size w wr) (fun i _ => s.length - (intOf i).toNat)
  case atStart => exact ⟨0, Nat.zero_le _, rfl, hO0, hal.out⟩
  case round =>
    obtain ⟨k, hk, rfl, hO, hbl⟩ := hrel
    by_cases hlt : k < s.length
    · have hltz : (k : Int) < ((strT s).size : Int) := by omega
      have hkN0 : (k : Int) < (N : Int) := by omega
      have hltn : k < (strT s).size := by omega
      obtain ⟨fb, fo, rfl, hfb, hfcell⟩ := bls_at hB0.out (show k < bs.length by omega)
      have f0 := (hbl.cell hfb).trans hfcell
      have c1 := (hbl.cell hblt).trans d1
      have c2 := (hbl.cell hblt).trans d2
      have c3 := (hbl.cell hblt).trans d3
      have c4 := (hbl.cell hblt).trans d4
      have hF1 := hid (hN.out k hlt).2
      obtain ⟨m, hm⟩ : ∃ m, Hid (m = k + 1) := ⟨_, hid rfl⟩
      have hmw : IntKind.i64.wrap ((k : Int) + 1) = (m : Int) := by rw [IntKind.wrap_i64, hm.out]; omega
      have hmN : (m : Int) < (N : Int) := by rw [hm.out]; omega
      rw [← hm.out] at hO hF1
      have o0 := OwnT.at hO.out (j := m) (x := (tabK N m F)[m]'(by rw [tabK_len]; omega)) (List.getElem?_eq_getElem _)
      have o1 := OwnT.free hO.out (by rw [tabK_len]) m
      generalize (tabK N m F)[m]'_ = ox at o0
      have hput := hid (fun x => OwnT.put_n (k := m) x hO.out (tabK_len _ _ _).symm)
      have hbput := hid (fun x => bl_set hbl w.heap.size m (.bool x) (Nat.le_refl _))
      clear hfcell
      have hbd : Below wr.heap.size wr wr.drew := (Below.refl _ _).drew
      have hnf : fb ≠ w.heap.size := by omega
      have hnb : b' ≠ w.heap.size := by omega
      cases hbk : bs[k] with
      | false =>
        rw [hbk] at f0
        rw [hbk, Bool.false_and] at hF1
        go_wp2_with fail
        go_region
        all_goals
          go_wp2
          go_roundw
          case rel => exact ⟨k + 1, by omega, by rw [hm.out], hid (by
            have h1 := OwnT.put_n (k := m) false (own_below hO.out hbd) (tabK_len N m F).symm
            rw [← hF1.out, tabK_step, hm.out] at h1
            rw [← hF1.out, hm.out]
            exact h1), bl_set (bl_step hbl hbd) _ _ _ (Nat.le_refl _)⟩
          case measure => have hm' := hm.out; simp [intOf]; omega
      | true =>
        rw [hbk] at f0
        have hx : (s[k]'hlt).toNat < 256 := by
          have := UInt8.toNat_lt (s[k]'hlt)
          omega
        have GH0 : Hid (∀ u, Calls Try.prog 39 #[.agg #[.int .u64 (a : Int), .int .u64 (b : Int), .int .u64 (c : Int), .int .u64 (d : Int)], .int .i64 (IntKind.i64.wrap (((strT s)[k]'hltn).toNat : Int))] u fun e w' => e = .returned (.bool (hasB ⟨a, b, c, d⟩ (s[k]'hlt).toNat)) ∧ Below u.heap.size u w') := hid (fun u => by
          have hwr : IntKind.i64.wrap ((s[k]'hlt).toNat : Int) = ((s[k]'hlt).toNat : Int) := by rw [IntKind.wrap_i64]; omega
          have key : IntKind.i64.wrap (((strT s)[k]'hltn).toNat : Int) = ((s[k]'hlt).toNat : Int) := (congrArg (fun c : UInt8 => IntKind.i64.wrap (c.toNat : Int)) (strT_at s k hltn hlt)).trans hwr
          rw [key]
          exact GH.out (s[k]'hlt).toNat u hx)
        rw [hbk, Bool.true_and] at hF1
        generalize hasB ⟨a, b, c, d⟩ (s[k]'hlt).toNat = r at GH0 hF1
        go_wp2_with fail
        go_region_held3 (fun w' => w'.cell? ⟨fb, fo + k, none⟩ = some (.bool true) ∧ w'.cell? ⟨b', o' + J * 5 + 1, none⟩ = some (.int .u64 (a : Int)) ∧ w'.cell? ⟨b', o' + J * 5 + 2, none⟩ = some (.int .u64 (b : Int)) ∧ w'.cell? ⟨b', o' + J * 5 + 3, none⟩ = some (.int .u64 (c : Int)) ∧ w'.cell? ⟨b', o' + J * 5 + 4, none⟩ = some (.int .u64 (d : Int)))
          (go_keep)
          ((go_at_call 39; refine (GH0.out _).mono ?_; rintro e w1 ⟨rfl, hb1⟩; have g0 := keep_cell hb1 (show World.cell? wr.drew _ = _ from f0); have g1 := keep_cell hb1 (show World.cell? wr.drew _ = _ from c1); have g2 := keep_cell hb1 (show World.cell? wr.drew _ = _ from c2); have g3 := keep_cell hb1 (show World.cell? wr.drew _ = _ from c3); have g4 := keep_cell hb1 (show World.cell? wr.drew _ = _ from c4); have o2 := keep_cell hb1 (show World.cell? wr.drew _ = _ from o0); have o3 := keep_free hb1 o0 o1; have p0 := set_keep (v := .bool r) m g0 hnf; have p1 := set_keep (v := .bool r) m g1 hnb; have p2 := set_keep (v := .bool r) m g2 hnb; have p3 := set_keep (v := .bool r) m g3 hnb; have p4 := set_keep (v := .bool r) m g4 hnb))
        all_goals
          go_wp2
          go_roundw
          case rel => exact ⟨k + 1, by omega, by rw [hm.out], hid (by
            have h1 := OwnT.put_n (k := m) r (own_below (own_below hO.out hbd) hb1) (tabK_len N m F).symm
            rw [← hF1.out, tabK_step, hm.out] at h1
            rw [← hF1.out, hm.out]
            exact h1), bl_set (bl_step (bl_step hbl hbd) hb1) _ _ _ (Nat.le_refl _)⟩
          case measure => have hm' := hm.out; simp [intOf]; omega
    · have hltz : ¬ (k : Int) < ((strT s).size : Int) := by omega
      have hkk : k + 1 = N := by omega
      rw [hkk] at hO
      have hend := hid (bls_n hO.out (tabK_len N N F).symm)
      go_wp2
      go_ret
      exact ⟨_, rfl, hend.out, new_blk w _ _ _, hbl⟩

end Go.Proofs.Ytgbecehggdkkmaa
