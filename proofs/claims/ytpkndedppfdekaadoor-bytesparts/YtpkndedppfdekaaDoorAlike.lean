/- Slices of sets of bytes; the contract of topiaryref05.Alike. -/
import Derived.Test.YtpkndedppfdekaaDoorLoops2
import Derived.Test.YtpkndedppfdekaaDoorParts
import Derived.BigQuiet
import Derived.Deep.QuietTactic
import Derived.Deep.RegionHeld3
namespace Go.Proofs.YtpkndedppfdekaaDoor
open Go.RowKit

/-- a set lies at a place -/
def At4 (w : World) (b o : Nat) (S : W4) : Prop := w.cell? ⟨b, o, none⟩ = some (.int .u64 (S.a : Int)) ∧ w.cell? ⟨b, o + 1, none⟩ = some (.int .u64 (S.b : Int)) ∧ w.cell? ⟨b, o + 2, none⟩ = some (.int .u64 (S.c : Int)) ∧ w.cell? ⟨b, o + 3, none⟩ = some (.int .u64 (S.d : Int))
theorem keep_cell {u w1 : World} (hb : Below u.heap.size u w1) {b o : Nat} {v : Value} (h : u.cell? ⟨b, o, none⟩ = some v) : w1.cell? ⟨b, o, none⟩ = some v :=
  (hb.cell (p := ⟨b, o, none⟩) (World.block_lt_of_cell? u ⟨b, o, none⟩ h)).trans h
theorem At4.keep {w w' : World} {b o : Nat} {S : W4} (h : At4 w b o S) (hb : Below w.heap.size w w') : At4 w' b o S := ⟨keep_cell hb h.1, keep_cell hb h.2.1, keep_cell hb h.2.2.1, keep_cell hb h.2.2.2⟩
/-- a slice of sets -/
def Sets (w : World) (v : Value) (l : List W4) : Prop := ∃ a cap, v = .slice a l.length cap ∧ l.length ≤ cap ∧ (a = none → cap = 0) ∧ (∀ S ∈ l, Fit4 S) ∧ ∀ j (h : j < l.length), ∃ b o, a = some ⟨b, o, none⟩ ∧ b < w.heap.size ∧ At4 w b (o + j * 4) l[j]
theorem Sets.keep {w w' : World} {v : Value} {l : List W4} (h : Sets w v l) (hb : Below w.heap.size w w') : Sets w' v l := by
  obtain ⟨a, cap, rfl, h1, h2, h3, h4⟩ := h
  refine ⟨a, cap, rfl, h1, h2, h3, fun j hj => ?_⟩
  obtain ⟨b, o, ha, hlt, hc⟩ := h4 j hj
  exact ⟨b, o, ha, Nat.lt_of_lt_of_le hlt hb.size, hc.keep hb⟩

theorem al_take {l : List W4} {x y k : Nat} (hk : k < l.length) (h : (l.take k).all (fun S => hasB S x == hasB S y) = true) (e : hasB l[k] x = hasB l[k] y) : (l.take (k + 1)).all (fun S => hasB S x == hasB S y) = true := by
  rw [List.take_succ_eq_append_getElem hk, List.all_append, h]
  simp [e]
theorem al_break {l : List W4} {x y k : Nat} (hk : k < l.length) (e : hasB l[k] x ≠ hasB l[k] y) : al l x y = false := by
  cases h : al l x y with
  | false => rfl
  | true => exact absurd ((al_iff l x y).1 h _ (List.getElem_mem hk)) e

set_option maxHeartbeats 2000000 in
theorem refAlike (v : Value) (l : List W4) (x y : Nat) (w : World) (hl : l.length ≤ 1000000) (hx : x < 256) (hy : y < 256) (hA : Sets w v l) :
    Calls Tryd.prog 33 #[v, .int .i64 x, .int .i64 y] w fun e w' => e = .returned (.bool (al l x y)) ∧ Below w.heap.size w w' := by
  obtain ⟨aa, ca, rfl, _, _, hF, hA⟩ := hA
  have hA0 := hid hA
  have hF0 := hid hF
  clear hA hF
  obtain ⟨r, hr⟩ : ∃ r, Hid (al l x y = r) := ⟨_, hid rfl⟩
  rw [show al l x y = r from hr.out]
  go_enter Tryd.func33, Tryd.ntmps33
  go_wp2
  go_loopw [7] (fun i wr => ∃ k : Nat, k ≤ l.length ∧ i = .int .i64 k ∧ Hid ((l.take k).all (fun S => hasB S x == hasB S y) = true) ∧ Below w.heap.size w wr) (fun i _ => l.length - (intOf i).toNat)
  case atStart => exact ⟨0, Nat.zero_le _, rfl, hid (by simp), Below.refl _ w⟩
  case round =>
    obtain ⟨k, hk, rfl, hall, hbl⟩ := hrel
    by_cases hlt : k < l.length
    · have hltz : (k : Int) < (l.length : Int) := by omega
      obtain ⟨b, o, rfl, hb, hat⟩ := hA0.out k hlt
      have hfit := hF0.out _ (List.getElem_mem hlt)
      have GA := hid (fun u => hasC l[k] x u hfit hx)
      have GB := hid (fun u => hasC l[k] y u hfit hy)
      have hyes := hid (al_take (x := x) (y := y) hlt hall.out)
      have hno := hid (al_break (x := x) (y := y) hlt)
      obtain ⟨d0, d1, d2, d3⟩ := hat
      have c0 := (hbl.cell hb).trans d0
      have c1 := (hbl.cell hb).trans d1
      have c2 := (hbl.cell hb).trans d2
      have c3 := (hbl.cell hb).trans d3
      clear d0 d1 d2 d3 hfit hall
      generalize hasB l[k] x = p at GA hyes hno
      generalize hasB l[k] y = q at GB hyes hno
      generalize l[k] = S at GA GB c0 c1 c2 c3
      obtain ⟨sa, sb, sc, sd⟩ := S
      simp only at c0 c1 c2 c3
      have hbd : Below wr.heap.size wr wr.drew := (Below.refl _ _).drew
      cases p <;> cases q
      · have hall' := hid (hyes.out rfl)
        clear hyes hno
        go_wp2_with fail
        go_region_held3 (fun w' => w'.cell? ⟨b, o + k * 4, none⟩ = some (.int .u64 sa) ∧ w'.cell? ⟨b, o + k * 4 + 1, none⟩ = some (.int .u64 sb) ∧ w'.cell? ⟨b, o + k * 4 + 2, none⟩ = some (.int .u64 sc) ∧ w'.cell? ⟨b, o + k * 4 + 3, none⟩ = some (.int .u64 sd)) (go_keep) ((first
          | (go_at_call_of 23 (Value.int .i64 (y : Int)); refine (GB.out w1).mono ?_; rintro e w2 ⟨rfl, hb2⟩; have g0 := keep_cell hb2 e0; have g1 := keep_cell hb2 e1; have g2 := keep_cell hb2 e2; have g3 := keep_cell hb2 e3)
          | (go_at_call_of 23 (Value.int .i64 (x : Int)); refine (GA.out v1).mono ?_; rintro e v2 ⟨rfl, hc2⟩; have g0 := keep_cell hc2 e0; have g1 := keep_cell hc2 e1; have g2 := keep_cell hc2 e2; have g3 := keep_cell hc2 e3)
          | (go_at_call_of 23 (Value.int .i64 (x : Int)); refine (GA.out wr.drew).mono ?_; rintro e w1 ⟨rfl, hb1⟩; have e0 := keep_cell hb1 (show wr.drew.cell? _ = _ from c0); have e1 := keep_cell hb1 (show wr.drew.cell? _ = _ from c1); have e2 := keep_cell hb1 (show wr.drew.cell? _ = _ from c2); have e3 := keep_cell hb1 (show wr.drew.cell? _ = _ from c3))
          | (go_at_call_of 23 (Value.int .i64 (y : Int)); refine (GB.out wr.drew).mono ?_; rintro e v1 ⟨rfl, hc1⟩; have e0 := keep_cell hc1 (show wr.drew.cell? _ = _ from c0); have e1 := keep_cell hc1 (show wr.drew.cell? _ = _ from c1); have e2 := keep_cell hc1 (show wr.drew.cell? _ = _ from c2); have e3 := keep_cell hc1 (show wr.drew.cell? _ = _ from c3))))
        all_goals
          go_wp2
          go_roundw
          case rel => exact ⟨k + 1, by omega, by go_num, hall', by first | exact bl_step (bl_step (bl_step hbl hbd) hb1) hb2 | exact bl_step (bl_step (bl_step hbl hbd) hc1) hc2⟩
          case measure => simp [intOf]; omega
      · have hres : r = false := by rw [← hr.out]; exact hno.out (by decide)
        clear hyes hno
        go_wp2_with fail
        go_region_held3 (fun w' => w'.cell? ⟨b, o + k * 4, none⟩ = some (.int .u64 sa) ∧ w'.cell? ⟨b, o + k * 4 + 1, none⟩ = some (.int .u64 sb) ∧ w'.cell? ⟨b, o + k * 4 + 2, none⟩ = some (.int .u64 sc) ∧ w'.cell? ⟨b, o + k * 4 + 3, none⟩ = some (.int .u64 sd)) (go_keep) ((first
          | (go_at_call_of 23 (Value.int .i64 (y : Int)); refine (GB.out w1).mono ?_; rintro e w2 ⟨rfl, hb2⟩; have g0 := keep_cell hb2 e0; have g1 := keep_cell hb2 e1; have g2 := keep_cell hb2 e2; have g3 := keep_cell hb2 e3)
          | (go_at_call_of 23 (Value.int .i64 (x : Int)); refine (GA.out v1).mono ?_; rintro e v2 ⟨rfl, hc2⟩; have g0 := keep_cell hc2 e0; have g1 := keep_cell hc2 e1; have g2 := keep_cell hc2 e2; have g3 := keep_cell hc2 e3)
          | (go_at_call_of 23 (Value.int .i64 (x : Int)); refine (GA.out wr.drew).mono ?_; rintro e w1 ⟨rfl, hb1⟩; have e0 := keep_cell hb1 (show wr.drew.cell? _ = _ from c0); have e1 := keep_cell hb1 (show wr.drew.cell? _ = _ from c1); have e2 := keep_cell hb1 (show wr.drew.cell? _ = _ from c2); have e3 := keep_cell hb1 (show wr.drew.cell? _ = _ from c3))
          | (go_at_call_of 23 (Value.int .i64 (y : Int)); refine (GB.out wr.drew).mono ?_; rintro e v1 ⟨rfl, hc1⟩; have e0 := keep_cell hc1 (show wr.drew.cell? _ = _ from c0); have e1 := keep_cell hc1 (show wr.drew.cell? _ = _ from c1); have e2 := keep_cell hc1 (show wr.drew.cell? _ = _ from c2); have e3 := keep_cell hc1 (show wr.drew.cell? _ = _ from c3))))
        all_goals
          go_wp2
          go_ret
          exact ⟨by first | rfl | (rw [hres]; rfl), by first | exact bl_step (bl_step (bl_step hbl hbd) hb1) hb2 | exact bl_step (bl_step (bl_step hbl hbd) hc1) hc2⟩
      · have hres : r = false := by rw [← hr.out]; exact hno.out (by decide)
        clear hyes hno
        go_wp2_with fail
        go_region_held3 (fun w' => w'.cell? ⟨b, o + k * 4, none⟩ = some (.int .u64 sa) ∧ w'.cell? ⟨b, o + k * 4 + 1, none⟩ = some (.int .u64 sb) ∧ w'.cell? ⟨b, o + k * 4 + 2, none⟩ = some (.int .u64 sc) ∧ w'.cell? ⟨b, o + k * 4 + 3, none⟩ = some (.int .u64 sd)) (go_keep) ((first
          | (go_at_call_of 23 (Value.int .i64 (y : Int)); refine (GB.out w1).mono ?_; rintro e w2 ⟨rfl, hb2⟩; have g0 := keep_cell hb2 e0; have g1 := keep_cell hb2 e1; have g2 := keep_cell hb2 e2; have g3 := keep_cell hb2 e3)
          | (go_at_call_of 23 (Value.int .i64 (x : Int)); refine (GA.out v1).mono ?_; rintro e v2 ⟨rfl, hc2⟩; have g0 := keep_cell hc2 e0; have g1 := keep_cell hc2 e1; have g2 := keep_cell hc2 e2; have g3 := keep_cell hc2 e3)
          | (go_at_call_of 23 (Value.int .i64 (x : Int)); refine (GA.out wr.drew).mono ?_; rintro e w1 ⟨rfl, hb1⟩; have e0 := keep_cell hb1 (show wr.drew.cell? _ = _ from c0); have e1 := keep_cell hb1 (show wr.drew.cell? _ = _ from c1); have e2 := keep_cell hb1 (show wr.drew.cell? _ = _ from c2); have e3 := keep_cell hb1 (show wr.drew.cell? _ = _ from c3))
          | (go_at_call_of 23 (Value.int .i64 (y : Int)); refine (GB.out wr.drew).mono ?_; rintro e v1 ⟨rfl, hc1⟩; have e0 := keep_cell hc1 (show wr.drew.cell? _ = _ from c0); have e1 := keep_cell hc1 (show wr.drew.cell? _ = _ from c1); have e2 := keep_cell hc1 (show wr.drew.cell? _ = _ from c2); have e3 := keep_cell hc1 (show wr.drew.cell? _ = _ from c3))))
        all_goals
          go_wp2
          go_ret
          exact ⟨by first | rfl | (rw [hres]; rfl), by first | exact bl_step (bl_step (bl_step hbl hbd) hb1) hb2 | exact bl_step (bl_step (bl_step hbl hbd) hc1) hc2⟩
      · have hall' := hid (hyes.out rfl)
        clear hyes hno
        go_wp2_with fail
        go_region_held3 (fun w' => w'.cell? ⟨b, o + k * 4, none⟩ = some (.int .u64 sa) ∧ w'.cell? ⟨b, o + k * 4 + 1, none⟩ = some (.int .u64 sb) ∧ w'.cell? ⟨b, o + k * 4 + 2, none⟩ = some (.int .u64 sc) ∧ w'.cell? ⟨b, o + k * 4 + 3, none⟩ = some (.int .u64 sd)) (go_keep) ((first
          | (go_at_call_of 23 (Value.int .i64 (y : Int)); refine (GB.out w1).mono ?_; rintro e w2 ⟨rfl, hb2⟩; have g0 := keep_cell hb2 e0; have g1 := keep_cell hb2 e1; have g2 := keep_cell hb2 e2; have g3 := keep_cell hb2 e3)
          | (go_at_call_of 23 (Value.int .i64 (x : Int)); refine (GA.out v1).mono ?_; rintro e v2 ⟨rfl, hc2⟩; have g0 := keep_cell hc2 e0; have g1 := keep_cell hc2 e1; have g2 := keep_cell hc2 e2; have g3 := keep_cell hc2 e3)
          | (go_at_call_of 23 (Value.int .i64 (x : Int)); refine (GA.out wr.drew).mono ?_; rintro e w1 ⟨rfl, hb1⟩; have e0 := keep_cell hb1 (show wr.drew.cell? _ = _ from c0); have e1 := keep_cell hb1 (show wr.drew.cell? _ = _ from c1); have e2 := keep_cell hb1 (show wr.drew.cell? _ = _ from c2); have e3 := keep_cell hb1 (show wr.drew.cell? _ = _ from c3))
          | (go_at_call_of 23 (Value.int .i64 (y : Int)); refine (GB.out wr.drew).mono ?_; rintro e v1 ⟨rfl, hc1⟩; have e0 := keep_cell hc1 (show wr.drew.cell? _ = _ from c0); have e1 := keep_cell hc1 (show wr.drew.cell? _ = _ from c1); have e2 := keep_cell hc1 (show wr.drew.cell? _ = _ from c2); have e3 := keep_cell hc1 (show wr.drew.cell? _ = _ from c3))))
        all_goals
          go_wp2
          go_roundw
          case rel => exact ⟨k + 1, by omega, by go_num, hall', by first | exact bl_step (bl_step (bl_step hbl hbd) hb1) hb2 | exact bl_step (bl_step (bl_step hbl hbd) hc1) hc2⟩
          case measure => simp [intOf]; omega
    · have hltz : ¬ (k : Int) < (l.length : Int) := by omega
      have hres : r = true := by
        have := hall.out
        rw [List.take_of_length_le (by omega)] at this
        rw [← hr.out]; exact this
      go_wp2
      go_ret
      exact ⟨by first | rfl | (rw [hres]; rfl), hbl⟩

end Go.Proofs.YtpkndedppfdekaaDoor
