/- The reference: Same. -/
import Derived.Test.YtjiljfmejgiabaaFrom
import Derived.Deep.RegionHeld3
namespace Go.Proofs.Ytjiljfmejgiabaa
open Go.RowKit

abbrev valC (c : Cel) : Value := .agg #[.int .i64 c.op, .int .u64 (c.s.a : Int), .int .u64 (c.s.b : Int), .int .u64 (c.s.c : Int), .int .u64 (c.s.d : Int)]
theorem Try.cells31 : Try.prog.cellsOf 31 = 4 := by kernel_rfl
theorem Try.cells3 : Try.prog.cellsOf 3 = 1 := by kernel_rfl
theorem Try.fields33 : (Try.prog.fieldsOf 33).toList.map (fun f => (f.name, f.type, f.offset)) = [("Op", 3, 0), ("Set", 31, 1)] := by kernel_rfl
theorem fields_two : ∃ f g, (Try.prog.fieldsOf 33).toList = [f, g] ∧ f.name = "Op" ∧ f.type = 3 ∧ f.offset = 0 ∧ g.name = "Set" ∧ g.type = 31 ∧ g.offset = 1 := by
  have h := Try.fields33
  generalize (Try.prog.fieldsOf 33).toList = L at h ⊢
  match L, h with
  | [], h => simp at h
  | [_], h => simp at h
  | _ :: _ :: _ :: _, h => simp at h
  | [f, g], h =>
    simp only [List.map_cons, List.map_nil, List.cons.injEq, Prod.mk.injEq, and_true] at h
    exact ⟨f, g, rfl, h.1.1, h.1.2.1, h.1.2.2, h.2.1, h.2.2.1, h.2.2.2⟩
theorem cel_eq (o o' : Int) (S S' : W4) : decide ((⟨o, S⟩ : Cel) = ⟨o', S'⟩) = ((o == o') && decide (S = S')) := by
  rw [Bool.eq_iff_iff]
  simp
theorem equal5 (d : Nat) (o o' : Int) (a b c e a' b' c' e' : Nat) (w : World) :
    (Op.equalIn (d + 3) 33 (.agg #[.int .i64 o, .int .u64 (a : Int), .int .u64 (b : Int), .int .u64 (c : Int), .int .u64 (e : Int)]) (.agg #[.int .i64 o', .int .u64 (a' : Int), .int .u64 (b' : Int), .int .u64 (c' : Int), .int .u64 (e' : Int)])).run Try.prog w = .ok (decide ((⟨o, ⟨a, b, c, e⟩⟩ : Cel) = ⟨o', ⟨a', b', c', e'⟩⟩)) w := by
  obtain ⟨f, g, hf, f1, f2, f3, g1, g2, g3⟩ := fields_two
  have p0 : ∀ x0 x1 x2 x3 x4 : Value, (part 3 #[x0, x1, x2, x3, x4] 0).run Try.prog w = .ok x0 w := fun _ _ _ _ _ => by simp [part, isAgg, run_underlying Try.underlying3]
  have p1 : ∀ x0 x1 x2 x3 x4 : Value, (part 31 #[x0, x1, x2, x3, x4] 1).run Try.prog w = .ok (.agg #[x1, x2, x3, x4]) w := fun _ _ _ _ _ => by simp [part, Try.isAgg31, Try.sizeOf31]
  have ht : Try.prog.underlying 33 = some (.struct (Try.prog.fieldsOf 33)) := by unfold Program.fieldsOf; rw [Try.underlying33]
  rw [run_equalIn_struct w (d + 2) 33 _ _ ht (by kernel_rfl), hf, cel_eq]
  have n1 : ("Op" : String) ≠ "_" := by decide
  have n2 : ("Set" : String) ≠ "_" := by decide
  simp only [Op.eqFields, f1, f2, f3, g1, g2, g3, if_pos n1, if_pos n2, Sem.run_bind, p0, Result.andThen_ok]
  rw [run_equalIn_int w (d + 1) 3 .i64 .i64 _ _ Try.underlying3]
  simp only [Result.andThen_ok]
  cases h1 : (o == o') with
  | false => simp
  | true =>
    have h4 := equal4 d a b c e a' b' c' e' w
    simp only [valB] at h4
    simp [p1, h4]
    cases hd : decide ((⟨a, b, c, e⟩ : W4) = ⟨a', b', c', e'⟩) <;> simp_all

/-- are two lists of cells alike? -/
def sameB (l m : List Cel) : Bool := decide (l = m)

set_option maxHeartbeats 2000000 in
theorem sameC (v v' : Value) (l m : List Cel) (w : World) (hl : l.length ≤ 1000000) (hA : Cels w v l) (hB : Cels w v' m) : Calls Try.prog 12 #[v, v'] w fun e w' => e = .returned (.bool (decide (l = m))) ∧ Below w.heap.size w w' := by
  obtain ⟨av, cv, rfl, _, _, _, hAt⟩ := hA
  obtain ⟨bv, dv, rfl, _, _, _, hBt⟩ := hB
  have hAt := hid hAt
  have hBt := hid hBt
  by_cases hlen : l.length = m.length
  · have hlz : ((l.length : Int) == (m.length : Int)) = true := beq_iff_eq.2 (by omega)
    have hend : Hid ((∀ j (h : j < l.length) (h' : j < m.length), l[j] = m[j]) → decide (l = m) = true) := hid (fun h => decide_eq_true (List.ext_getElem hlen h))
    have hno : Hid (∀ j (h : j < l.length) (h' : j < m.length), l[j] ≠ m[j] → decide (l = m) = false) := hid (fun j h h' hne => decide_eq_false (fun e => hne (by subst e; rfl)))
    generalize decide (l = m) = R at hend hno ⊢
    rw [← hlen] at hlz ⊢
    have hlen' := hid hlen
    clear hlen
    go_enter Try.func12, Try.ntmps12
    go_wp2
    go_loopw [5] (fun i wr => ∃ k : Nat, k ≤ l.length ∧ i = .int .i64 k ∧ Hid (∀ j (h : j < l.length) (h' : j < m.length), j < k → l[j] = m[j]) ∧ Below w.heap.size w wr) (fun i _ => l.length - (intOf i).toNat)
    case atStart => exact ⟨0, Nat.zero_le _, rfl, hid (fun j _ _ h => absurd h (Nat.not_lt_zero _)), Below.refl _ _⟩
    case round =>
      obtain ⟨k, hk, rfl, hlow, hbl⟩ := hrel
      by_cases hlt : k < l.length
      · have hltz : (k : Int) < (l.length : Int) := by omega
        obtain ⟨b1, o1, rfl, _, h5⟩ := hAt.out k hlt
        obtain ⟨b2, o2, rfl, _, h6⟩ := hBt.out k (by have := hlen'.out; omega)
        have h5 := h5.keep (bl_step hbl (Below.refl _ _).drew)
        have h6 := h6.keep (bl_step hbl (Below.refl _ _).drew)
        have hno1 := hid (hno.out k hlt (by have := hlen'.out; omega))
        have hkm : k < m.length := by have := hlen'.out; omega
        have hyes : Hid (l[k] = m[k] → ∀ j (h : j < l.length) (h' : j < m.length), j < k + 1 → l[j] = m[j]) := hid (fun e j h h' hj => by
          by_cases e' : j = k
          · subst e'; exact e
          · exact hlow.out j h h' (by omega))
        generalize l[k] = c at h5 hno1 hyes
        generalize m[k] = c' at h6 hno1 hyes
        obtain ⟨op, a1, a2, a3, a4⟩ := c
        obtain ⟨op', a1', a2', a3', a4'⟩ := c'
        obtain ⟨d0, d1, d2, d3, d4⟩ := h5
        obtain ⟨e0, e1, e2, e3, e4⟩ := h6
        simp only at d0 d1 d2 d3 d4 e0 e1 e2 e3 e4
        have hgt := Try.eqGuardType33
        cases hc : decide ((⟨op, ⟨a1, a2, a3, a4⟩⟩ : Cel) = ⟨op', ⟨a1', a2', a3', a4'⟩⟩) with
        | true =>
          have he : ∀ u, (Op.equalIn 10000 33 (.agg #[.int .i64 op, .int .u64 (a1 : Int), .int .u64 (a2 : Int), .int .u64 (a3 : Int), .int .u64 (a4 : Int)]) (.agg #[.int .i64 op', .int .u64 (a1' : Int), .int .u64 (a2' : Int), .int .u64 (a3' : Int), .int .u64 (a4' : Int)])).run Try.prog u = .ok true u := fun u => (equal5 9997 op op' a1 a2 a3 a4 a1' a2' a3' a4' u).trans (by rw [hc])
          have hy := hid (hyes.out (of_decide_eq_true hc))
          clear hc hno1 hyes
          go_wp2_with fail
          go_region_with (fail)
          all_goals
            go_wp2
            exact ⟨⟨k + 1, by omega, by go_num, hy, bl_step hbl (Below.refl _ _).drew⟩, by simp [intOf]; omega⟩
        | false =>
          have he : ∀ u, (Op.equalIn 10000 33 (.agg #[.int .i64 op, .int .u64 (a1 : Int), .int .u64 (a2 : Int), .int .u64 (a3 : Int), .int .u64 (a4 : Int)]) (.agg #[.int .i64 op', .int .u64 (a1' : Int), .int .u64 (a2' : Int), .int .u64 (a3' : Int), .int .u64 (a4' : Int)])).run Try.prog u = .ok false u := fun u => (equal5 9997 op op' a1 a2 a3 a4 a1' a2' a3' a4' u).trans (by rw [hc])
          have hR : R = false := hno1.out (of_decide_eq_false hc)
          clear hc hno1 hyes
          subst hR
          go_wp2_with fail
          go_region_with (fail)
          all_goals
            go_wp2
            go_ret
            exact ⟨rfl, bl_step hbl (Below.refl _ _).drew⟩
      · have hltz : ¬ (k : Int) < (l.length : Int) := by omega
        have hR : R = true := hend.out (fun j h h' => hlow.out j h h' (by omega))
        subst hR
        go_wp2
        go_ret
        exact ⟨rfl, hbl⟩
  · have hlz : ((l.length : Int) == (m.length : Int)) = false := beq_eq_false_iff_ne.2 (by omega)
    have e : decide (l = m) = false := decide_eq_false (fun e => hlen (by rw [e]))
    rw [e]
    go_enter Try.func12, Try.ntmps12
    go_wp2
    go_ret
    exact ⟨rfl, Below.refl _ _⟩

end Go.Proofs.Ytjiljfmejgiabaa
