/- The walk of BytesTwo. -/
import Derived.Test.YtpkndedppfdekaaDoorCon
import Derived.Test.YtpkndedppfdekaaDoorEq
namespace Go.Proofs.YtpkndedppfdekaaDoor
open Go.RowKit

theorem not_fit (S : W4) : Fit4 (notB S) := by unfold notB; exact mkB_fit _
theorem not_not {S : W4} (hS : Fit4 S) : notB (notB S) = S :=
  (mkB_eq hS fun x hx => by unfold notB; rw [mkB_has _ x hx]; simp).symm

set_option maxHeartbeats 4000000 in
theorem twoWalk {OK : World → Prop} (H : BytesOK OK) (sa sb sc sd ta tb tc td : Nat) (w : World) (hS : Fit4 ⟨sa, sb, sc, sd⟩) (hT : Fit4 ⟨ta, tb, tc, td⟩) (hw : OK w) :
    Calls Tryd.prog 4 #[valB ⟨sa, sb, sc, sd⟩, valB ⟨ta, tb, tc, td⟩] w fun e w' => e = .returned (.bool true) ∧ Below w.heap.size w w' := by
  have GW := hid (fun u hu => wakesC H u hu)
  have G1 := hid (fun u hu => H.or ⟨sa, sb, sc, sd⟩ ⟨ta, tb, tc, td⟩ u hS hT hu)
  have G2 := hid (fun u => refOr sa sb sc sd ta tb tc td u hS hT)
  have G3 := hid (fun u hu => H.and ⟨sa, sb, sc, sd⟩ ⟨ta, tb, tc, td⟩ u hS hT hu)
  have G4 := hid (fun u => refAnd sa sb sc sd ta tb tc td u hS hT)
  have G5 := hid (fun u hu => H.not ⟨sa, sb, sc, sd⟩ u hS hu)
  have G6 := hid (fun u => refNot sa sb sc sd u hS)
  have G7 := hid (fun u hu => H.not (notB ⟨sa, sb, sc, sd⟩) u (not_fit _) hu)
  rw [not_not hS] at G7
  generalize orB ⟨sa, sb, sc, sd⟩ ⟨ta, tb, tc, td⟩ = X at G1 G2
  generalize andB ⟨sa, sb, sc, sd⟩ ⟨ta, tb, tc, td⟩ = Y at G3 G4
  generalize notB ⟨sa, sb, sc, sd⟩ = Z at G5 G6 G7
  obtain ⟨xa, xb, xc, xd⟩ := X
  obtain ⟨ya, yb, yc, yd⟩ := Y
  obtain ⟨za, zb, zc, zd⟩ := Z
  have he1 : ∀ u, (Op.equalIn 10000 25 (.agg #[.int .u64 (xa : Int), .int .u64 (xb : Int), .int .u64 (xc : Int), .int .u64 (xd : Int)]) (.agg #[.int .u64 (xa : Int), .int .u64 (xb : Int), .int .u64 (xc : Int), .int .u64 (xd : Int)])).run Tryd.prog u = .ok true u := fun u => (equal4 9998 xa xb xc xd xa xb xc xd u).trans (by simp)
  have he2 : ∀ u, (Op.equalIn 10000 25 (.agg #[.int .u64 (ya : Int), .int .u64 (yb : Int), .int .u64 (yc : Int), .int .u64 (yd : Int)]) (.agg #[.int .u64 (ya : Int), .int .u64 (yb : Int), .int .u64 (yc : Int), .int .u64 (yd : Int)])).run Tryd.prog u = .ok true u := fun u => (equal4 9998 ya yb yc yd ya yb yc yd u).trans (by simp)
  have he3 : ∀ u, (Op.equalIn 10000 25 (.agg #[.int .u64 (za : Int), .int .u64 (zb : Int), .int .u64 (zc : Int), .int .u64 (zd : Int)]) (.agg #[.int .u64 (za : Int), .int .u64 (zb : Int), .int .u64 (zc : Int), .int .u64 (zd : Int)])).run Tryd.prog u = .ok true u := fun u => (equal4 9998 za zb zc zd za zb zc zd u).trans (by simp)
  have he4 : ∀ u, (Op.equalIn 10000 25 (.agg #[.int .u64 (sa : Int), .int .u64 (sb : Int), .int .u64 (sc : Int), .int .u64 (sd : Int)]) (.agg #[.int .u64 (sa : Int), .int .u64 (sb : Int), .int .u64 (sc : Int), .int .u64 (sd : Int)])).run Tryd.prog u = .ok true u := fun u => (equal4 9998 sa sb sc sd sa sb sc sd u).trans (by simp)
  have hgt := Tryd.eqGuardType25
  have HK := hid H.keep
  have bS : Hid (Blk ((w.alloc (.cells #[.int .u64 (sa : Int), .int .u64 (sb : Int), .int .u64 (sc : Int), .int .u64 (sd : Int)] 25)).alloc (.cells #[.int .u64 (ta : Int), .int .u64 (tb : Int), .int .u64 (tc : Int), .int .u64 (td : Int)] 25)) w.heap.size ⟨sa, sb, sc, sd⟩) := hid (two_blocks w _ _).1
  have bT : Hid (Blk ((w.alloc (.cells #[.int .u64 (sa : Int), .int .u64 (sb : Int), .int .u64 (sc : Int), .int .u64 (sd : Int)] 25)).alloc (.cells #[.int .u64 (ta : Int), .int .u64 (tb : Int), .int .u64 (tc : Int), .int .u64 (td : Int)] 25)) (w.heap.size + 1) ⟨ta, tb, tc, td⟩) := hid (two_blocks w _ _).2
  have hb00 : Below w.heap.size w ((w.alloc (.cells #[.int .u64 (sa : Int), .int .u64 (sb : Int), .int .u64 (sc : Int), .int .u64 (sd : Int)] 25)).alloc (.cells #[.int .u64 (ta : Int), .int .u64 (tb : Int), .int .u64 (tc : Int), .int .u64 (td : Int)] 25)) := bl_step (al' w _) (al' _ _)
  have k00 := hid (H.keep _ _ hw hb00)
  clear hw
  go_enter Tryd.func4, Tryd.ntmps4
  go_wp2_with fail
  generalize (w.alloc (.cells #[.int .u64 (sa : Int), .int .u64 (sb : Int), .int .u64 (sc : Int), .int .u64 (sd : Int)] 25)).alloc (.cells #[.int .u64 (ta : Int), .int .u64 (tb : Int), .int .u64 (tc : Int), .int .u64 (td : Int)] 25) = W at bS bT hb00 k00 ⊢
  have hbd : Below W.heap.size W W.drew := (Below.refl _ _).drew
  obtain ⟨s0, s1, s2, s3, s4, s5, s6, s7⟩ := bS.out.cells
  obtain ⟨t0, t1, t2, t3, t4, t5, t6, t7⟩ := bT.out.cells
  have bS0 := hid (bS.out.keep hbd)
  have bT0 := hid (bT.out.keep hbd)
  have k0 := hid (HK.out _ _ k00.out hbd)
  go_region_held3 (fun w' => w'.cell? ⟨w.heap.size, 0, none⟩ = some (.int .u64 sa) ∧ w'.cell? ⟨w.heap.size, 1, none⟩ = some (.int .u64 sb) ∧ w'.cell? ⟨w.heap.size, 2, none⟩ = some (.int .u64 sc) ∧ w'.cell? ⟨w.heap.size, 3, none⟩ = some (.int .u64 sd) ∧ w'.cell? ⟨w.heap.size + 1, 0, none⟩ = some (.int .u64 ta) ∧ w'.cell? ⟨w.heap.size + 1, 1, none⟩ = some (.int .u64 tb) ∧ w'.cell? ⟨w.heap.size + 1, 2, none⟩ = some (.int .u64 tc) ∧ w'.cell? ⟨w.heap.size + 1, 3, none⟩ = some (.int .u64 td)) (go_keep) ((first
    | (go_at_call 16; refine (G7.out w8 k8.out).mono ?_; rintro e w9 ⟨rfl, hb9⟩; have k9 := hid (HK.out _ _ k8.out hb9); have bS9 := hid (bS8.out.keep hb9); obtain ⟨bSx90, bSx91, bSx92, bSx93, bSx94, bSx95, bSx96, bSx97⟩ := bS9.out.cells; have bT9 := hid (bT8.out.keep hb9); obtain ⟨bTx90, bTx91, bTx92, bTx93, bTx94, bTx95, bTx96, bTx97⟩ := bT9.out.cells)
    | (go_at_call 16; refine (G5.out w7 k7.out).mono ?_; rintro e w8 ⟨rfl, hb8⟩; have k8 := hid (HK.out _ _ k7.out hb8); have bS8 := hid (bS7.out.keep hb8); obtain ⟨bSx80, bSx81, bSx82, bSx83, bSx84, bSx85, bSx86, bSx87⟩ := bS8.out.cells; have bT8 := hid (bT7.out.keep hb8); obtain ⟨bTx80, bTx81, bTx82, bTx83, bTx84, bTx85, bTx86, bTx87⟩ := bT8.out.cells)
    | (go_at_call 17; refine (G6.out w6).mono ?_; rintro e w7 ⟨rfl, hb7⟩; have k7 := hid (HK.out _ _ k6.out hb7); have bS7 := hid (bS6.out.keep hb7); obtain ⟨bSx70, bSx71, bSx72, bSx73, bSx74, bSx75, bSx76, bSx77⟩ := bS7.out.cells; have bT7 := hid (bT6.out.keep hb7); obtain ⟨bTx70, bTx71, bTx72, bTx73, bTx74, bTx75, bTx76, bTx77⟩ := bT7.out.cells)
    | (go_at_call 16; refine (G5.out w5 k5.out).mono ?_; rintro e w6 ⟨rfl, hb6⟩; have k6 := hid (HK.out _ _ k5.out hb6); have bS6 := hid (bS5.out.keep hb6); obtain ⟨bSx60, bSx61, bSx62, bSx63, bSx64, bSx65, bSx66, bSx67⟩ := bS6.out.cells; have bT6 := hid (bT5.out.keep hb6); obtain ⟨bTx60, bTx61, bTx62, bTx63, bTx64, bTx65, bTx66, bTx67⟩ := bT6.out.cells)
    | (go_at_call 15; refine (G4.out w4).mono ?_; rintro e w5 ⟨rfl, hb5⟩; have k5 := hid (HK.out _ _ k4.out hb5); have bS5 := hid (bS4.out.keep hb5); obtain ⟨bSx50, bSx51, bSx52, bSx53, bSx54, bSx55, bSx56, bSx57⟩ := bS5.out.cells; have bT5 := hid (bT4.out.keep hb5); obtain ⟨bTx50, bTx51, bTx52, bTx53, bTx54, bTx55, bTx56, bTx57⟩ := bT5.out.cells)
    | (go_at_call 14; refine (G3.out w3 k3.out).mono ?_; rintro e w4 ⟨rfl, hb4⟩; have k4 := hid (HK.out _ _ k3.out hb4); have bS4 := hid (bS3.out.keep hb4); obtain ⟨bSx40, bSx41, bSx42, bSx43, bSx44, bSx45, bSx46, bSx47⟩ := bS4.out.cells; have bT4 := hid (bT3.out.keep hb4); obtain ⟨bTx40, bTx41, bTx42, bTx43, bTx44, bTx45, bTx46, bTx47⟩ := bT4.out.cells)
    | (go_at_call 13; refine (G2.out w2).mono ?_; rintro e w3 ⟨rfl, hb3⟩; have k3 := hid (HK.out _ _ k2.out hb3); have bS3 := hid (bS2.out.keep hb3); obtain ⟨bSx30, bSx31, bSx32, bSx33, bSx34, bSx35, bSx36, bSx37⟩ := bS3.out.cells; have bT3 := hid (bT2.out.keep hb3); obtain ⟨bTx30, bTx31, bTx32, bTx33, bTx34, bTx35, bTx36, bTx37⟩ := bT3.out.cells)
    | (go_at_call 12; refine (G1.out w1 k1.out).mono ?_; rintro e w2 ⟨rfl, hb2⟩; have k2 := hid (HK.out _ _ k1.out hb2); have bS2 := hid (bS1.out.keep hb2); obtain ⟨bSx20, bSx21, bSx22, bSx23, bSx24, bSx25, bSx26, bSx27⟩ := bS2.out.cells; have bT2 := hid (bT1.out.keep hb2); obtain ⟨bTx20, bTx21, bTx22, bTx23, bTx24, bTx25, bTx26, bTx27⟩ := bT2.out.cells)
    | (go_at_call 8; refine (GW.out W.drew k0.out).mono ?_; rintro e w1 ⟨rfl, hb1⟩; have k1 := hid (HK.out _ _ k0.out hb1); have bS1 := hid (bS0.out.keep hb1); obtain ⟨bSx10, bSx11, bSx12, bSx13, bSx14, bSx15, bSx16, bSx17⟩ := bS1.out.cells; have bT1 := hid (bT0.out.keep hb1); obtain ⟨bTx10, bTx11, bTx12, bTx13, bTx14, bTx15, bTx16, bTx17⟩ := bT1.out.cells)
    | fail))
  all_goals
    go_wp2
    go_ret
    exact ⟨rfl, bl_step (bl_step (bl_step (bl_step (bl_step (bl_step (bl_step (bl_step (bl_step (bl_step hb00 hbd) hb1) hb2) hb3) hb4) hb5) hb6) hb7) hb8) hb9⟩

end Go.Proofs.YtpkndedppfdekaaDoor
