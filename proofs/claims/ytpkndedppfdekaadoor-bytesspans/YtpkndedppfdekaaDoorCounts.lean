/- The walk of BytesCounts. -/
import Derived.Test.YtpkndedppfdekaaDoorTwo
namespace Go.Proofs.YtpkndedppfdekaaDoor
open Go.RowKit

theorem count_not (S : W4) : ∀ k, k ≤ 256 → countN S k + countN (notB S) k = k
  | 0, _ => by rw [countN_zero, countN_zero]
  | k + 1, hk => by
    have ih := count_not S k (by omega)
    rw [countN_succ, countN_succ, show hasB (notB S) k = !hasB S k by unfold notB; rw [mkB_has _ k (by omega)]]
    cases hasB S k <;> simp <;> omega
theorem count_both (S : W4) : countB S + countB (notB S) = 256 := by rw [countB_eq, countB_eq]; exact count_not S 256 (Nat.le_refl _)

set_option maxHeartbeats 4000000 in
theorem countsWalk {OK : World → Prop} (H : BytesOK OK) (sa sb sc sd x : Nat) (w : World) (hS : Fit4 ⟨sa, sb, sc, sd⟩) (hx : x < 256) (hw : OK w) :
    Calls Tryd.prog 5 #[valB ⟨sa, sb, sc, sd⟩, .int .u8 (x : Int)] w fun e w' => e = .returned (.bool true) ∧ Below w.heap.size w w' := by
  have GW := hid (fun u hu => wakesC H u hu)
  have G1 := hid (fun u hu => H.count ⟨sa, sb, sc, sd⟩ u hS hu)
  have G2 := hid (fun u => refCount sa sb sc sd u hS)
  have G3 := hid (fun u hu => H.least ⟨sa, sb, sc, sd⟩ u hS hu)
  have G4 := hid (fun u => refLeast sa sb sc sd u hS)
  have G5 := hid (fun u hu => H.has ⟨sa, sb, sc, sd⟩ x u hS hx hu)
  have G6 := hid (fun u => hasC ⟨sa, sb, sc, sd⟩ x u hS hx)
  have G7 := hid (fun u hu => H.not ⟨sa, sb, sc, sd⟩ u hS hu)
  have G8 := hid (fun u hu => H.count (notB ⟨sa, sb, sc, sd⟩) u (not_fit _) hu)
  have hcb := count_both ⟨sa, sb, sc, sd⟩
  generalize countB ⟨sa, sb, sc, sd⟩ = n at G1 G2 hcb
  generalize countB (notB ⟨sa, sb, sc, sd⟩) = m at G8 hcb
  generalize leastB ⟨sa, sb, sc, sd⟩ = q at G3 G4
  generalize hasB ⟨sa, sb, sc, sd⟩ x = p at G5 G6
  generalize notB ⟨sa, sb, sc, sd⟩ = Z at G7 G8
  obtain ⟨za, zb, zc, zd⟩ := Z
  have hsum : IntKind.i64.wrap ((n : Int) + (m : Int)) = 256 := by rw [IntKind.wrap_i64]; omega
  have hxw : IntKind.i64.wrap (x : Int) = (x : Int) := by rw [IntKind.wrap_i64]; omega
  have e1 : ((n : Int) == (n : Int)) = true := beq_self_eq_true _
  have e2 : (q == q) = true := beq_self_eq_true _
  have e3 : (p == p) = true := beq_self_eq_true _
  have HK := hid H.keep
  have bS : Hid (Blk (w.alloc (.cells #[.int .u64 (sa : Int), .int .u64 (sb : Int), .int .u64 (sc : Int), .int .u64 (sd : Int)] 25)) w.heap.size ⟨sa, sb, sc, sd⟩) := hid (heap_new w _)
  have hb00 : Below w.heap.size w (w.alloc (.cells #[.int .u64 (sa : Int), .int .u64 (sb : Int), .int .u64 (sc : Int), .int .u64 (sd : Int)] 25)) := al' w _
  have k00 := hid (H.keep _ _ hw hb00)
  clear hw hcb
  go_enter Tryd.func5, Tryd.ntmps5
  go_wp2_with fail
  generalize w.alloc (.cells #[.int .u64 (sa : Int), .int .u64 (sb : Int), .int .u64 (sc : Int), .int .u64 (sd : Int)] 25) = W at bS hb00 k00 ⊢
  have hbd : Below W.heap.size W W.drew := (Below.refl _ _).drew
  obtain ⟨s0, s1, s2, s3, s4, s5, s6, s7⟩ := bS.out.cells
  have bS0 := hid (bS.out.keep hbd)
  have k0 := hid (HK.out _ _ k00.out hbd)
  go_region_held3 (fun w' => w'.cell? ⟨w.heap.size, 0, none⟩ = some (.int .u64 sa) ∧ w'.cell? ⟨w.heap.size, 1, none⟩ = some (.int .u64 sb) ∧ w'.cell? ⟨w.heap.size, 2, none⟩ = some (.int .u64 sc) ∧ w'.cell? ⟨w.heap.size, 3, none⟩ = some (.int .u64 sd)) (go_keep) ((first
    | (go_at_call 18; refine (G8.out w9 k9.out).mono ?_; rintro e w10 ⟨rfl, hb10⟩; have k10 := hid (HK.out _ _ k9.out hb10); have bS10 := hid (bS9.out.keep hb10); obtain ⟨bSx100, bSx101, bSx102, bSx103, bSx104, bSx105, bSx106, bSx107⟩ := bS10.out.cells)
    | (go_at_call 16; refine (G7.out w8 k8.out).mono ?_; rintro e w9 ⟨rfl, hb9⟩; have k9 := hid (HK.out _ _ k8.out hb9); have bS9 := hid (bS8.out.keep hb9); obtain ⟨bSx90, bSx91, bSx92, bSx93, bSx94, bSx95, bSx96, bSx97⟩ := bS9.out.cells)
    | (go_at_call 18; refine (G1.out w7 k7.out).mono ?_; rintro e w8 ⟨rfl, hb8⟩; have k8 := hid (HK.out _ _ k7.out hb8); have bS8 := hid (bS7.out.keep hb8); obtain ⟨bSx80, bSx81, bSx82, bSx83, bSx84, bSx85, bSx86, bSx87⟩ := bS8.out.cells)
    | (go_at_call 23; refine (G6.out w6).mono ?_; rintro e w7 ⟨rfl, hb7⟩; have k7 := hid (HK.out _ _ k6.out hb7); have bS7 := hid (bS6.out.keep hb7); obtain ⟨bSx70, bSx71, bSx72, bSx73, bSx74, bSx75, bSx76, bSx77⟩ := bS7.out.cells)
    | (go_at_call 22; refine (G5.out w5 k5.out).mono ?_; rintro e w6 ⟨rfl, hb6⟩; have k6 := hid (HK.out _ _ k5.out hb6); have bS6 := hid (bS5.out.keep hb6); obtain ⟨bSx60, bSx61, bSx62, bSx63, bSx64, bSx65, bSx66, bSx67⟩ := bS6.out.cells)
    | (go_at_call 21; refine (G4.out w4).mono ?_; rintro e w5 ⟨rfl, hb5⟩; have k5 := hid (HK.out _ _ k4.out hb5); have bS5 := hid (bS4.out.keep hb5); obtain ⟨bSx50, bSx51, bSx52, bSx53, bSx54, bSx55, bSx56, bSx57⟩ := bS5.out.cells)
    | (go_at_call 20; refine (G3.out w3 k3.out).mono ?_; rintro e w4 ⟨rfl, hb4⟩; have k4 := hid (HK.out _ _ k3.out hb4); have bS4 := hid (bS3.out.keep hb4); obtain ⟨bSx40, bSx41, bSx42, bSx43, bSx44, bSx45, bSx46, bSx47⟩ := bS4.out.cells)
    | (go_at_call 19; refine (G2.out w2).mono ?_; rintro e w3 ⟨rfl, hb3⟩; have k3 := hid (HK.out _ _ k2.out hb3); have bS3 := hid (bS2.out.keep hb3); obtain ⟨bSx30, bSx31, bSx32, bSx33, bSx34, bSx35, bSx36, bSx37⟩ := bS3.out.cells)
    | (go_at_call 18; refine (G1.out w1 k1.out).mono ?_; rintro e w2 ⟨rfl, hb2⟩; have k2 := hid (HK.out _ _ k1.out hb2); have bS2 := hid (bS1.out.keep hb2); obtain ⟨bSx20, bSx21, bSx22, bSx23, bSx24, bSx25, bSx26, bSx27⟩ := bS2.out.cells)
    | (go_at_call 8; refine (GW.out W.drew k0.out).mono ?_; rintro e w1 ⟨rfl, hb1⟩; have k1 := hid (HK.out _ _ k0.out hb1); have bS1 := hid (bS0.out.keep hb1); obtain ⟨bSx10, bSx11, bSx12, bSx13, bSx14, bSx15, bSx16, bSx17⟩ := bS1.out.cells)
    | fail))
  all_goals
    go_wp2
    go_ret
    exact ⟨rfl, bl_step (bl_step (bl_step (bl_step (bl_step (bl_step (bl_step (bl_step (bl_step (bl_step (bl_step hb00 hbd) hb1) hb2) hb3) hb4) hb5) hb6) hb7) hb8) hb9) hb10⟩

end Go.Proofs.YtpkndedppfdekaaDoor
