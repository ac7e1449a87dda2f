/- The walk of BytesSpans. -/
import Derived.Test.YtpkndedppfdekaaDoorCon
import Derived.Test.YtpkndedppfdekaaDoorEq
namespace Go.Proofs.YtpkndedppfdekaaDoor
open Go.RowKit

set_option maxHeartbeats 1000000 in
theorem spansWalk {OK : World → Prop} (H : BytesOK OK) (f t : Nat) (w : World) (hf : f < 256) (ht : t < 256) (hw : OK w) :
    Calls Tryd.prog 3 #[.int .u8 (f : Int), .int .u8 (t : Int)] w fun e w' => e = .returned (.bool true) ∧ Below w.heap.size w w' := by
  have GW := hid (fun u hu => wakesC H u hu)
  have G1 := hid (fun u hu => H.span f t u hf ht hu)
  have G2 := hid (fun u => refSpan f t u hf ht)
  have G3 := hid (fun u hu => H.one f u hf hu)
  have G4 := hid (fun u => refSpan f f u hf hf)
  have HK := hid H.keep
  have hw0 := hid hw
  generalize spanB f t = S at G1 G2
  generalize spanB f f = T at G3 G4
  obtain ⟨a, b, c, d⟩ := S
  obtain ⟨a', b', c', d'⟩ := T
  have he1 : ∀ u, (Op.equalIn 10000 25 (.agg #[.int .u64 (a : Int), .int .u64 (b : Int), .int .u64 (c : Int), .int .u64 (d : Int)]) (.agg #[.int .u64 (a : Int), .int .u64 (b : Int), .int .u64 (c : Int), .int .u64 (d : Int)])).run Tryd.prog u = .ok true u := fun u => (equal4 9998 a b c d a b c d u).trans (by simp)
  have he2 : ∀ u, (Op.equalIn 10000 25 (.agg #[.int .u64 (a' : Int), .int .u64 (b' : Int), .int .u64 (c' : Int), .int .u64 (d' : Int)]) (.agg #[.int .u64 (a' : Int), .int .u64 (b' : Int), .int .u64 (c' : Int), .int .u64 (d' : Int)])).run Tryd.prog u = .ok true u := fun u => (equal4 9998 a' b' c' d' a' b' c' d' u).trans (by simp)
  have hgt := Tryd.eqGuardType25
  clear hw
  go_enter Tryd.func3, Tryd.ntmps3
  go_wp2_with (first
    | (go_at_call 8; refine (GW.out _ hw0.out).mono ?_; rintro e w1 ⟨rfl, hb1⟩; have k1 := hid (HK.out _ _ hw0.out hb1))
    | (go_at_call 9; refine (G1.out _ k1.out).mono ?_; rintro e w2 ⟨rfl, hb2⟩; have k2 := hid (HK.out _ _ k1.out hb2))
    | (go_at_call 10; refine (G4.out w4).mono ?_; rintro e w5 ⟨rfl, hb5⟩)
    | (go_at_call 10; refine (G2.out w2).mono ?_; rintro e w3 ⟨rfl, hb3⟩; have k3 := hid (HK.out _ _ k2.out hb3))
    | (go_at_call 11; refine (G3.out _ k3.out).mono ?_; rintro e w4 ⟨rfl, hb4⟩))
  go_ret
  exact ⟨rfl, bl_step (bl_step (bl_step (bl_step hb1 hb2) hb3) hb4) hb5⟩

end Go.Proofs.YtpkndedppfdekaaDoor
