/- == and != on sets of bytes. Right of package regex. -/
import Derived.Test.YtgbecehggdkkmaaJ3
import Derived.Test.YtgbecehggdkkmaaJ11
namespace Go.Proofs.Ytgbecehggdkkmaa
open Go.RowKit

set_option maxRecDepth 20000 in
theorem eql4 (S T : W4) (w : World) : (binOp .eql 40 (valB S) (valB T)).run Try.prog w = .ok (.bool (decide (S = T))) w := by
  obtain ⟨a, b, c, d⟩ := S
  obtain ⟨a', b', c', d'⟩ := T
  rw [run_eql_struct, equal4 9998]
  rfl
set_option maxRecDepth 20000 in
theorem neq4 (S T : W4) (w : World) : (binOp .neq 40 (valB S) (valB T)).run Try.prog w = .ok (.bool (!decide (S = T))) w := by
  obtain ⟨a, b, c, d⟩ := S
  obtain ⟨a', b', c', d'⟩ := T
  rw [run_neq_struct, equal4 9998]
  rfl


end Go.Proofs.Ytgbecehggdkkmaa
namespace Go.Proofs.Ytgbecehggdkkmaa
open Go.RowKit

set_option maxRecDepth 20000 in
theorem operandsC (op : Int) (w : World) : Calls Try.prog 40 #[.int .i64 op] w fun e w' => e = .returned (.int .i64 (wants op)) ∧ w' = w := by
  by_cases h1 : op = 1
  · subst h1; rw [show wants 1 = 0 by decide]; go_enter Try.func40, Try.ntmps40; go_wp2; go_ret; exact ⟨rfl, rfl⟩
  by_cases h2 : op = 2
  · subst h2; rw [show wants 2 = 0 by decide]; go_enter Try.func40, Try.ntmps40; go_wp2; go_ret; exact ⟨rfl, rfl⟩
  by_cases h3 : op = 3
  · subst h3; rw [show wants 3 = 2 by decide]; go_enter Try.func40, Try.ntmps40; go_wp2; go_ret; exact ⟨rfl, rfl⟩
  by_cases h4 : op = 4
  · subst h4; rw [show wants 4 = 2 by decide]; go_enter Try.func40, Try.ntmps40; go_wp2; go_ret; exact ⟨rfl, rfl⟩
  by_cases h5 : op = 5
  · subst h5; rw [show wants 5 = 1 by decide]; go_enter Try.func40, Try.ntmps40; go_wp2; go_ret; exact ⟨rfl, rfl⟩
  by_cases h6 : op = 6
  · subst h6; rw [show wants 6 = 1 by decide]; go_enter Try.func40, Try.ntmps40; go_wp2; go_ret; exact ⟨rfl, rfl⟩
  by_cases h7 : op = 7
  · subst h7; rw [show wants 7 = 1 by decide]; go_enter Try.func40, Try.ntmps40; go_wp2; go_ret; exact ⟨rfl, rfl⟩
  have c1 : (op == 1) = false := beq_eq_false_iff_ne.2 h1
  have c2 : (op == 2) = false := beq_eq_false_iff_ne.2 h2
  have c3 : (op == 3) = false := beq_eq_false_iff_ne.2 h3
  have c4 : (op == 4) = false := beq_eq_false_iff_ne.2 h4
  have c5 : (op == 5) = false := beq_eq_false_iff_ne.2 h5
  have c6 : (op == 6) = false := beq_eq_false_iff_ne.2 h6
  have c7 : (op == 7) = false := beq_eq_false_iff_ne.2 h7
  have e : wants op = -1 := by unfold wants; rw [if_neg (by omega), if_neg (by omega), if_neg (by omega)]
  rw [e]
  clear h1 h2 h3 h4 h5 h6 h7
  go_enter Try.func40, Try.ntmps40; go_wp2; go_ret; exact ⟨rfl, rfl⟩

/-- a cell as a value -/
abbrev celV (op : Int) (a b c d : Nat) : Value := .agg #[.int .i64 op, .int .u64 (a : Int), .int .u64 (b : Int), .int .u64 (c : Int), .int .u64 (d : Int)]
theorem cells5 {w : World} {b : Nat} {x0 x1 x2 x3 x4 : Value} {T : TypeId} (h : w.heap[b]? = some (.cells #[x0, x1, x2, x3, x4] T (0, 0))) :
    w.cell? ⟨b, 0, none⟩ = some x0 ∧ w.cell? ⟨b, 1, none⟩ = some x1 ∧ w.cell? ⟨b, 2, none⟩ = some x2 ∧ w.cell? ⟨b, 3, none⟩ = some x3 ∧ w.cell? ⟨b, 4, none⟩ = some x4 := ⟨blk_cell h rfl, blk_cell h rfl, blk_cell h rfl, blk_cell h rfl, blk_cell h rfl⟩

set_option maxRecDepth 20000 in
set_option maxHeartbeats 1000000 in
theorem rightSetC (op : Int) (a b c d : Nat) (w : World) : Calls Try.prog 41 #[celV op a b c d] w fun e w' => e = .returned (.bool (!(decide ((⟨a, b, c, d⟩ : W4) = noneB) == (op == 1)))) ∧ Below w.heap.size w w' := by
  have he : ∀ u, (Op.equalIn 10000 40 (.agg #[.int .u64 (a : Int), .int .u64 (b : Int), .int .u64 (c : Int), .int .u64 (d : Int)]) (.agg #[.int .u64 0, .int .u64 0, .int .u64 0, .int .u64 0])).run Try.prog u = .ok (decide ((⟨a, b, c, d⟩ : W4) = noneB)) u := fun u => equal4 9998 a b c d 0 0 0 0 u
  generalize decide ((⟨a, b, c, d⟩ : W4) = noneB) = E at he ⊢
  have hb : ∀ x y : Bool, ∀ u, (binOp .eql 4 (.bool x) (.bool y)).run Try.prog u = .ok (.bool (x == y)) u := fun x y u => by cases x <;> cases y <;> kernel_rfl
  go_enter Try.func41, Try.ntmps41
  go_wp2_with fail
  go_quiet (fail)
  go_wp2
  go_ret
  refine ⟨?_, ?_⟩
  · cases E <;> cases (op == 1) <;> rfl
  · exact (al' w _).trans ⟨rfl, rfl, rfl, Nat.le_refl _, fun _ _ => rfl⟩

set_option maxRecDepth 20000 in
set_option maxHeartbeats 4000000 in
theorem rightP (v : Value) (l : List Cel) (w : World) (hA : Cels w v l) : Calls Try.prog 16 #[v] w fun e w' => e = .returned (.bool (rightB l)) ∧ Below w.heap.size w w' := by
  obtain ⟨av, cv, rfl, _, _, hFl, hAt⟩ := hA
  have hAt := hid hAt
  by_cases h60 : 60 < l.length
  · have e : rightB l = false := by unfold rightB; rw [decide_eq_false (by omega : ¬ l.length ≤ 60)]; simp
    rw [e]
    have h60z : (60 : Int) < (l.length : Int) := by omega
    go_enter Try.func16, Try.ntmps16; go_wp2; go_ret; exact ⟨rfl, Below.refl _ _⟩
  have h60z : ¬ (60 : Int) < (l.length : Int) := by omega
  have hend := hid (fun (h : 1 ≤ l.length) d => @right_end l h (by omega) d)
  have hnil : Hid (l.length = 0 → rightB l = false) := hid (fun h => by unfold rightB; rw [decide_eq_false (by omega : ¬ 1 ≤ l.length)]; rfl)
  have hbad := hid (fun k (hk : k ≤ l.length) (h : depthN l k = none) => right_bad (depth_none l h l.length hk))
  have hsucc := hid (fun k d => @depth_succ l k d)
  have GW := hid operandsC
  have GS := hid rightSetC
  generalize rightB l = R at hend hbad hnil ⊢
  go_enter Try.func16, Try.ntmps16
  go_wp2
  go_loopw [3, 12] (fun d i wr => ∃ (k : Nat) (z : Int), k ≤ l.length ∧ i = .int .i64 k ∧ d = .int .i64 z ∧ Hid (depthN l k = some z) ∧ 0 ≤ z ∧ z ≤ k ∧ Below w.heap.size w wr) (fun _ i _ => l.length - (intOf i).toNat)
  case atStart => exact ⟨0, 0, Nat.zero_le _, rfl, rfl, hid rfl, Int.le_refl _, by omega, Below.refl _ _⟩
  case round =>
    obtain ⟨k, z, hk, rfl, rfl, hdep, hz0, hzk, hbl⟩ := hrel
    by_cases hlt : k < l.length
    · have hltz : (k : Int) < (l.length : Int) := by omega
      obtain ⟨b', o', rfl, hb', hat0⟩ := hAt.out k hlt
      have hat := hat0.keep hbl
      clear hat0
      have hs := hid (hsucc.out k z hdep.out hlt)
      have hbk := hid (hbad.out (k + 1) (by omega))
      generalize l[k] = c at hat hs
      obtain ⟨op, S⟩ := c
      obtain ⟨sa, sb, sc, sd⟩ := S
      obtain ⟨d0, d1, d2, d3, d4⟩ := hat
      simp only at d0 d1 d2 d3 d4
      have GW0 := hid (fun u => GW.out op u)
      have GS0 := hid (fun u => GS.out op sa sb sc sd u)
      have hwl := wants_le op
      have hbb := hid (al' wr (.cells #[.int .i64 op, .int .u64 (sa : Int), .int .u64 (sb : Int), .int .u64 (sc : Int), .int .u64 (sd : Int)] 46))
      unfold badC at hs
      simp only at hs
      generalize wants op = q at GW0 hs hwl
      have hop : decide (op = 1) = (op == 1) := by rw [Bool.eq_iff_iff]; simp
      rw [hop] at hs
      clear hop
      generalize (decide ((⟨sa, sb, sc, sd⟩ : W4) = noneB) == (op == 1)) = E at GS0 hs
      by_cases hq : q < 0
      · have hR : R = false := hbk.out (by rw [hs.out, decide_eq_true hq]; rfl)
        subst hR
        go_wp2_with (go_at_call 40; refine (GW0.out _).mono ?_; rintro e u1 ⟨rfl, hu⟩; subst u1)
        go_ret
        exact ⟨rfl, bl_step hbl hbb.out⟩
      · by_cases hd : z < q
        · have hR : R = false := hbk.out (by rw [hs.out, decide_eq_true hd, Bool.or_true]; rfl)
          subst hR
          go_wp2_with (go_at_call 40; refine (GW0.out _).mono ?_; rintro e u1 ⟨rfl, hu⟩; subst u1)
          go_ret
          exact ⟨rfl, bl_step hbl hbb.out⟩
        · rw [decide_eq_false hq, decide_eq_false hd, Bool.false_or, Bool.false_or] at hs
          cases E with
          | true =>
            have hR : R = false := hbk.out (by rw [hs.out]; rfl)
            subst hR
            clear hs
            go_wp2_with (first
              | (go_at_call 40; refine (GW0.out _).mono ?_; rintro e u1 ⟨rfl, hu⟩; subst u1)
              | (go_at_call 41; refine (GS0.out _).mono ?_; rintro e w1 ⟨rfl, hb1⟩))
            go_ret
            exact ⟨rfl, bl_step (bl_step hbl hbb.out) hb1⟩
          | false =>
            rw [if_neg Bool.false_ne_true] at hs
            go_wp2_with (first
              | (go_at_call 40; refine (GW0.out _).mono ?_; rintro e u1 ⟨rfl, hu⟩; subst u1)
              | (go_at_call 41; refine (GS0.out _).mono ?_; rintro e w1 ⟨rfl, hb1⟩))
            go_roundw
            case rel => exact ⟨k + 1, z - q + 1, by omega, by go_num, by go_num, hs, by omega, by omega, bl_step (bl_step hbl hbb.out) hb1⟩
            case measure => simp [intOf]; omega
    · have hltz : ¬ (k : Int) < (l.length : Int) := by omega
      have e : k = l.length := by omega
      subst e
      by_cases hl0 : l.length = 0
      · have hR := hnil.out hl0
        have hz : z = 0 := by omega
        subst hz
        subst hR
        go_wp2
        go_ret
        exact ⟨rfl, hbl⟩
      · have hR := hend.out (by omega) z hdep.out
        clear hl0
        go_wp2
        go_ret
        exact ⟨by first | rfl | rw [hR], hbl⟩

end Go.Proofs.Ytgbecehggdkkmaa
