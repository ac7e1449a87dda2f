/- Rules in memory: slices of cells. The reference: Wants, Right. -/
import Derived.Test.YtgbecehggdkkmaaJ2
import Derived.Laws.StructEq
import Derived.ChangeKeysEq
namespace Go.Proofs.Ytgbecehggdkkmaa
open Go.RowKit

structure FitC (c : Cel) : Prop where
  lo : -9223372036854775808 ≤ c.op
  hi : c.op ≤ 9223372036854775807
  s : Fit4 c.s
/-- a cell lies at a place -/
def At5 (w : World) (b o : Nat) (c : Cel) : Prop := w.cell? ⟨b, o, none⟩ = some (.int .i64 c.op) ∧ w.cell? ⟨b, o + 1, none⟩ = some (.int .u64 (c.s.a : Int)) ∧ w.cell? ⟨b, o + 2, none⟩ = some (.int .u64 (c.s.b : Int)) ∧ w.cell? ⟨b, o + 3, none⟩ = some (.int .u64 (c.s.c : Int)) ∧ w.cell? ⟨b, o + 4, none⟩ = some (.int .u64 (c.s.d : Int))
theorem keep_cell {u w1 : World} (hb : Below u.heap.size u w1) {b o : Nat} {v : Value} (h : u.cell? ⟨b, o, none⟩ = some v) : w1.cell? ⟨b, o, none⟩ = some v :=
  (World.cell?_of_block (hb.block b (World.block_lt_of_cell? u _ h))).trans h
theorem At5.keep {w w' : World} {b o : Nat} {c : Cel} (h : At5 w b o c) (hb : Below w.heap.size w w') : At5 w' b o c := ⟨keep_cell hb h.1, keep_cell hb h.2.1, keep_cell hb h.2.2.1, keep_cell hb h.2.2.2.1, keep_cell hb h.2.2.2.2⟩
/-- a slice holds these cells, wherever it lies -/
def Cels (w : World) (v : Value) (l : List Cel) : Prop := ∃ a cap, v = .slice a l.length cap ∧ l.length ≤ cap ∧ (a = none → cap = 0) ∧ (∀ c ∈ l, FitC c) ∧ ∀ j (h : j < l.length), ∃ b o, a = some ⟨b, o, none⟩ ∧ b < w.heap.size ∧ At5 w b (o + j * 5) l[j]
theorem Cels.keep {w w' : World} {v : Value} {l : List Cel} (h : Cels w v l) (hb : Below w.heap.size w w') : Cels w' v l := by
  obtain ⟨a, cap, hv, hc, hn, hf, hat⟩ := h
  refine ⟨a, cap, hv, hc, hn, hf, fun j hj => ?_⟩
  obtain ⟨b, o, ha, hlt, h5⟩ := hat j hj
  exact ⟨b, o, ha, Nat.lt_of_lt_of_le hlt hb.size, h5.keep hb⟩

theorem Try.info38 : (Try.prog.info? 38).map (fun i => (i.zero, i.size, i.bytes)) = some (some (.int .u64 0), 1, 8) := by kernel_rfl
theorem Try.cells38 : Try.prog.cellsOf 38 = 1 := by kernel_rfl
theorem equal4 (d a b c e a' b' c' e' : Nat) (w : World) :
    (Op.equalIn (d + 2) 40 (valB ⟨a, b, c, e⟩) (valB ⟨a', b', c', e'⟩)).run Try.prog w = .ok (decide ((⟨a, b, c, e⟩ : W4) = ⟨a', b', c', e'⟩)) w := by
  obtain ⟨i0, hi, hz0, hz1, hz2⟩ := info_parts Try.info38
  have p0 : ∀ x0 x1 x2 x3 : Int, (part 38 #[.int .u64 x0, .int .u64 x1, .int .u64 x2, .int .u64 x3] 0).run Try.prog w = .ok (.int .u64 x0) w := fun _ _ _ _ => by simp [part, isAgg, run_underlying Try.underlying38]
  have p1 : ∀ x0 x1 x2 x3 : Int, (part 38 #[.int .u64 x0, .int .u64 x1, .int .u64 x2, .int .u64 x3] 1).run Try.prog w = .ok (.int .u64 x1) w := fun _ _ _ _ => by simp [part, isAgg, run_underlying Try.underlying38]
  have p2 : ∀ x0 x1 x2 x3 : Int, (part 38 #[.int .u64 x0, .int .u64 x1, .int .u64 x2, .int .u64 x3] 2).run Try.prog w = .ok (.int .u64 x2) w := fun _ _ _ _ => by simp [part, isAgg, run_underlying Try.underlying38]
  have p3 : ∀ x0 x1 x2 x3 : Int, (part 38 #[.int .u64 x0, .int .u64 x1, .int .u64 x2, .int .u64 x3] 3).run Try.prog w = .ok (.int .u64 x3) w := fun _ _ _ _ => by simp [part, isAgg, run_underlying Try.underlying38]
  rw [run_equalIn_array w (d + 1) _ _ Try.underlying40 hi, Try.cells38, show List.range 4 = [0, 1, 2, 3] from rfl]
  simp only [Op.eqItems, Sem.run_bind, Nat.mul_one, p0, run_equalIn_int w d 38 .u64 .u64 _ _ Try.underlying38, Result.andThen_ok]
  by_cases h0 : a = a'
  · by_cases h1 : b = b'
    · by_cases h2 : c = c'
      · by_cases h3 : e = e'
        · subst h0 h1 h2 h3; simp [p1, p2, p3, run_equalIn_int w d 38 .u64 .u64 _ _ Try.underlying38]
        · subst h0 h1 h2; simp [h3, p1, p2, p3, run_equalIn_int w d 38 .u64 .u64 _ _ Try.underlying38]; omega
      · subst h0 h1; simp [h2, p1, p2, p3, run_equalIn_int w d 38 .u64 .u64 _ _ Try.underlying38]; omega
    · subst h0; simp [h1, p1, p2, p3, run_equalIn_int w d 38 .u64 .u64 _ _ Try.underlying38]; omega
  · simp [h0, p1, p2, p3, run_equalIn_int w d 38 .u64 .u64 _ _ Try.underlying38]; omega

end Go.Proofs.Ytgbecehggdkkmaa
namespace Go.Proofs.Ytgbecehggdkkmaa
open Go.RowKit

theorem wantsC (op : Int) (w : World) : Calls Try.prog 22 #[.int .i64 op] w fun e w' => e = .returned (.int .i64 (wants op)) ∧ w' = w := by
  by_cases h1 : op = 1
  · subst h1; rw [show wants 1 = 0 by decide]; go_enter Try.func22, Try.ntmps22; go_wp2; go_ret; exact ⟨rfl, rfl⟩
  by_cases h2 : op = 2
  · subst h2; rw [show wants 2 = 0 by decide]; go_enter Try.func22, Try.ntmps22; go_wp2; go_ret; exact ⟨rfl, rfl⟩
  by_cases h3 : op = 3
  · subst h3; rw [show wants 3 = 2 by decide]; go_enter Try.func22, Try.ntmps22; go_wp2; go_ret; exact ⟨rfl, rfl⟩
  by_cases h4 : op = 4
  · subst h4; rw [show wants 4 = 2 by decide]; go_enter Try.func22, Try.ntmps22; go_wp2; go_ret; exact ⟨rfl, rfl⟩
  have c1 : (op == 1) = false := beq_eq_false_iff_ne.2 h1
  have c2 : (op == 2) = false := beq_eq_false_iff_ne.2 h2
  have c3 : (op == 3) = false := beq_eq_false_iff_ne.2 h3
  have c4 : (op == 4) = false := beq_eq_false_iff_ne.2 h4
  by_cases h5 : 5 ≤ op
  · by_cases h7 : op ≤ 7
    · have e : wants op = 1 := by unfold wants; rw [if_neg (by omega), if_neg (by omega), if_pos ⟨h5, h7⟩]
      rw [e]
      go_enter Try.func22, Try.ntmps22; go_wp2; go_ret; exact ⟨rfl, rfl⟩
    · have e : wants op = -1 := by unfold wants; rw [if_neg (by omega), if_neg (by omega), if_neg (by omega)]
      rw [e]
      go_enter Try.func22, Try.ntmps22; go_wp2; go_ret; exact ⟨rfl, rfl⟩
  · have e : wants op = -1 := by unfold wants; rw [if_neg (by omega), if_neg (by omega), if_neg (by omega)]
    rw [e]
    go_enter Try.func22, Try.ntmps22; go_wp2; go_ret; exact ⟨rfl, rfl⟩

theorem depth_none (l : List Cel) {k : Nat} (h : depthN l k = none) : ∀ m, k ≤ m → depthN l m = none
  | 0, hm => by
    have : k = 0 := by omega
    subst this; exact h
  | m + 1, hm => by
    by_cases e : k = m + 1
    · subst e; exact h
    · have ih := depth_none l h m (by omega)
      rw [depthN, ih]
theorem depth_succ (l : List Cel) {k : Nat} {d : Int} (h : depthN l k = some d) (hk : k < l.length) : depthN l (k + 1) = if badC d l[k] then none else some (d - wants l[k].op + 1) := by
  rw [depthN, h, List.getElem?_eq_getElem hk]
theorem wants_le (op : Int) : -1 ≤ wants op ∧ wants op ≤ 2 := by
  unfold wants
  split
  · omega
  · split
    · omega
    · split <;> omega
theorem right_end {l : List Cel} (h1 : 1 ≤ l.length) (h2 : l.length ≤ 60) {d : Int} (h : depthN l l.length = some d) : rightB l = (d == 1) := by
  unfold rightB
  rw [decide_eq_true h1, decide_eq_true h2, h, Bool.eq_iff_iff]
  simp
theorem right_bad {l : List Cel} (h : depthN l l.length = none) : rightB l = false := by
  unfold rightB
  rw [h]
  simp

set_option maxRecDepth 20000 in
set_option maxHeartbeats 4000000 in
theorem rightC (v : Value) (l : List Cel) (w : World) (hA : Cels w v l) : Calls Try.prog 8 #[v] w fun e w' => e = .returned (.bool (rightB l)) ∧ w' = w := by
  obtain ⟨av, cv, rfl, _, _, hFl, hAt⟩ := hA
  have hAt := hid hAt
  by_cases h0 : l.length < 1
  · have e : rightB l = false := by unfold rightB; rw [decide_eq_false (by omega : ¬ 1 ≤ l.length)]; rfl
    rw [e]
    have h0z : (l.length : Int) < 1 := by omega
    go_enter Try.func8, Try.ntmps8; go_wp2; go_ret; exact ⟨rfl, rfl⟩
  by_cases h60 : 60 < l.length
  · have e : rightB l = false := by unfold rightB; rw [decide_eq_false (by omega : ¬ l.length ≤ 60)]; simp
    rw [e]
    have h0z : ¬ (l.length : Int) < 1 := by omega
    have h60z : (60 : Int) < (l.length : Int) := by omega
    go_enter Try.func8, Try.ntmps8; go_wp2; go_ret; exact ⟨rfl, rfl⟩
  have h0z : ¬ (l.length : Int) < 1 := by omega
  have h60z : ¬ (60 : Int) < (l.length : Int) := by omega
  have hend := hid (fun d => @right_end l (by omega) (by omega) d)
  have hbad := hid (fun k (hk : k ≤ l.length) (h : depthN l k = none) => right_bad (depth_none l h l.length hk))
  have hsucc := hid (fun k d => @depth_succ l k d)
  have GW := hid wantsC
  generalize rightB l = R at hend hbad ⊢
  go_enter Try.func8, Try.ntmps8
  go_wp2
  go_loopw [3, 4] (fun d i wr => ∃ (k : Nat) (z : Int), k ≤ l.length ∧ i = .int .i64 k ∧ d = .int .i64 z ∧ Hid (depthN l k = some z) ∧ 0 ≤ z ∧ z ≤ k ∧ Hid (wr = w)) (fun _ i _ => l.length - (intOf i).toNat)
  case atStart => exact ⟨0, 0, Nat.zero_le _, rfl, rfl, hid rfl, Int.le_refl _, by omega, hid rfl⟩
  case round =>
    obtain ⟨k, z, hk, rfl, rfl, hdep, hz0, hzk, hwr⟩ := hrel
    have hwr' := hwr.out
    subst hwr'
    by_cases hlt : k < l.length
    · have hltz : (k : Int) < (l.length : Int) := by omega
      obtain ⟨b', o', rfl, hb', hat⟩ := hAt.out k hlt
      have hs := hid (hsucc.out k z hdep.out hlt)
      have hbk := hid (hbad.out (k + 1) (by omega))
      generalize l[k] = c at hat hs
      obtain ⟨op, S⟩ := c
      obtain ⟨sa, sb, sc, sd⟩ := S
      obtain ⟨d0, d1, d2, d3, d4⟩ := hat
      simp only at d0 d1 d2 d3 d4
      have GW0 := hid (fun u => GW.out op u)
      have hwl := wants_le op
      unfold badC at hs
      simp only at hs
      generalize wants op = q at GW0 hs hwl
      have he : ∀ u, (Op.equalIn 10000 40 (.agg #[.int .u64 (sa : Int), .int .u64 (sb : Int), .int .u64 (sc : Int), .int .u64 (sd : Int)]) (.agg #[.int .u64 0, .int .u64 0, .int .u64 0, .int .u64 0])).run Try.prog u = .ok (decide ((⟨sa, sb, sc, sd⟩ : W4) = noneB)) u := fun u => equal4 9998 sa sb sc sd 0 0 0 0 u
      have hgt := Try.eqGuardType40
      generalize decide ((⟨sa, sb, sc, sd⟩ : W4) = noneB) = E at he hs
      have hop : decide (op = 1) = (op == 1) := by rw [Bool.eq_iff_iff]; simp
      rw [hop] at hs
      clear hop
      by_cases hq : q < 0
      · have hR : R = false := hbk.out (by rw [hs.out, decide_eq_true hq]; rfl)
        subst hR
        go_wp2_with (go_at_call 22; refine (GW0.out _).mono ?_; rintro e u1 ⟨rfl, hu⟩; subst u1)
        go_ret
        exact ⟨rfl, rfl⟩
      · by_cases hd : z < q
        · have hR : R = false := hbk.out (by rw [hs.out, decide_eq_true hd, Bool.or_true]; rfl)
          subst hR
          go_wp2_with (go_at_call 22; refine (GW0.out _).mono ?_; rintro e u1 ⟨rfl, hu⟩; subst u1)
          go_ret
          exact ⟨rfl, rfl⟩
        · rw [decide_eq_false hq, decide_eq_false hd, Bool.false_or, Bool.false_or] at hs
          cases hb : (E == (op == 1)) with
          | true =>
            have hR : R = false := hbk.out (by rw [hs.out, hb]; rfl)
            subst hR
            clear hs
            go_wp2_with (go_at_call 22; refine (GW0.out _).mono ?_; rintro e u1 ⟨rfl, hu⟩; subst u1)
            go_ret
            exact ⟨rfl, rfl⟩
          | false =>
            rw [hb, if_neg Bool.false_ne_true] at hs
            go_wp2_with (go_at_call 22; refine (GW0.out _).mono ?_; rintro e u1 ⟨rfl, hu⟩; subst u1)
            exact ⟨⟨k + 1, z - q + 1, by omega, by go_num, by go_num, hs, by omega, by omega, by first | exact hid rfl | exact hid trivial⟩, by simp [intOf]; omega⟩
    · have hltz : ¬ (k : Int) < (l.length : Int) := by omega
      have e : k = l.length := by omega
      subst e
      have hR := hend.out z hdep.out
      go_wp2
      go_ret
      exact ⟨by first | rfl | rw [hR], rfl⟩

end Go.Proofs.Ytgbecehggdkkmaa
