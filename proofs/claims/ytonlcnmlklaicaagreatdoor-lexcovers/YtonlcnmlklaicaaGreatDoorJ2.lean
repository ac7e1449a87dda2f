/- Rules in memory: slices of cells. The table that bits.TrailingZeros64 reads. The reference: Wants, Right. The reference: From, Empty, Null. -/
import Derived.Test.YtonlcnmlklaicaaGreatDoorJ1
import Derived.Test.YtonlcnmlklaicaaGreatDoorCards
import Derived.Test.YtonlcnmlklaicaaGreatDoorTie
import Derived.Laws.StructEq
import Derived.ChangeKeysEq
import Derived.Deep.DeepHandedRow
import Derived.Lib.LaidTab
import Derived.Shelf.Spec.TrailingZeros
import Derived.MakeChecks
namespace Go.Proofs.YtonlcnmlklaicaaGreatDoor
open Go.RowKit

structure FitC (c : Cel) : Prop where
  lo : -9223372036854775808 ≤ c.op
  hi : c.op ≤ 9223372036854775807
  s : Fit4 c.s
/-- a cell lies at a place -/
def At5 (w : World) (b o : Nat) (c : Cel) : Prop := w.cell? ⟨b, o, none⟩ = some (.int .i64 c.op) ∧ w.cell? ⟨b, o + 1, none⟩ = some (.int .u64 (c.s.a : Int)) ∧ w.cell? ⟨b, o + 2, none⟩ = some (.int .u64 (c.s.b : Int)) ∧ w.cell? ⟨b, o + 3, none⟩ = some (.int .u64 (c.s.c : Int)) ∧ w.cell? ⟨b, o + 4, none⟩ = some (.int .u64 (c.s.d : Int))
theorem keep_cell {u w1 : World} (hb : Below u.heap.size u w1) {b o : Nat} {v : Value} (h : u.cell? ⟨b, o, none⟩ = some v) : w1.cell? ⟨b, o, none⟩ = some v :=
  (World.cell?_of_block (hb.block b (World.block_lt_of_cell? u _ h))).trans h
theorem At5.keep {w w' : World} {b o : Nat} {c : Cel} (h : At5 w b o c) (hb : Below w.heap.size w w') : At5 w' b o c := ⟨keep_cell hb h.1, keep_cell hb h.2.1, keep_cell hb h.2.2.1, keep_cell hb h.2.2.2.1, keep_cell hb h.2.2.2.2⟩
/-- a slice holds these cells, wherever it lies -/
def Cels (w : World) (v : Value) (l : List Cel) : Prop := ∃ a cap, v = .slice a l.length cap ∧ l.length ≤ cap ∧ (a = none → cap = 0) ∧ (∀ c ∈ l, FitC c) ∧ ∀ j (h : j < l.length), ∃ b o, a = some ⟨b, o, none⟩ ∧ b < w.heap.size ∧ At5 w b (o + j * 5) l[j]
theorem Cels.keep {w w' : World} {v : Value} {l : List Cel} (h : Cels w v l) (hb : Below w.heap.size w w') : Cels w' v l := by
  obtain ⟨a, cap, hv, hc, hn, hf, hat⟩ := h
  refine ⟨a, cap, hv, hc, hn, hf, fun j hj => ?_⟩
  obtain ⟨b, o, ha, hlt, h5⟩ := hat j hj
  exact ⟨b, o, ha, Nat.lt_of_lt_of_le hlt hb.size, h5.keep hb⟩

set_option maxRecDepth 20000 in
theorem Tryz.info63 : (Tryz.prog.info? 63).map (fun i => (i.zero, i.size, i.bytes)) = some (some (.int .u64 0), 1, 8) := by kernel_rfl
set_option maxRecDepth 20000 in
theorem Tryz.cells63 : Tryz.prog.cellsOf 63 = 1 := by kernel_rfl
set_option maxRecDepth 20000 in
theorem equal4 (d a b c e a' b' c' e' : Nat) (w : World) :
    (Op.equalIn (d + 2) 65 (valB ⟨a, b, c, e⟩) (valB ⟨a', b', c', e'⟩)).run Tryz.prog w = .ok (decide ((⟨a, b, c, e⟩ : W4) = ⟨a', b', c', e'⟩)) w := by
  obtain ⟨i0, hi, hz0, hz1, hz2⟩ := info_parts Tryz.info63
  have p0 : ∀ x0 x1 x2 x3 : Int, (part 63 #[.int .u64 x0, .int .u64 x1, .int .u64 x2, .int .u64 x3] 0).run Tryz.prog w = .ok (.int .u64 x0) w := fun _ _ _ _ => by simp [part, isAgg, run_underlying Tryz.underlying63]
  have p1 : ∀ x0 x1 x2 x3 : Int, (part 63 #[.int .u64 x0, .int .u64 x1, .int .u64 x2, .int .u64 x3] 1).run Tryz.prog w = .ok (.int .u64 x1) w := fun _ _ _ _ => by simp [part, isAgg, run_underlying Tryz.underlying63]
  have p2 : ∀ x0 x1 x2 x3 : Int, (part 63 #[.int .u64 x0, .int .u64 x1, .int .u64 x2, .int .u64 x3] 2).run Tryz.prog w = .ok (.int .u64 x2) w := fun _ _ _ _ => by simp [part, isAgg, run_underlying Tryz.underlying63]
  have p3 : ∀ x0 x1 x2 x3 : Int, (part 63 #[.int .u64 x0, .int .u64 x1, .int .u64 x2, .int .u64 x3] 3).run Tryz.prog w = .ok (.int .u64 x3) w := fun _ _ _ _ => by simp [part, isAgg, run_underlying Tryz.underlying63]
  rw [run_equalIn_array w (d + 1) _ _ Tryz.underlying65 hi, Tryz.cells63, show List.range 4 = [0, 1, 2, 3] from rfl]
  simp only [Op.eqItems, Sem.run_bind, Nat.mul_one, p0, run_equalIn_int w d 63 .u64 .u64 _ _ Tryz.underlying63, Result.andThen_ok]
  by_cases h0 : a = a'
  · by_cases h1 : b = b'
    · by_cases h2 : c = c'
      · by_cases h3 : e = e'
        · subst h0 h1 h2 h3; simp [p1, p2, p3, run_equalIn_int w d 63 .u64 .u64 _ _ Tryz.underlying63]
        · subst h0 h1 h2; simp [h3, p1, p2, p3, run_equalIn_int w d 63 .u64 .u64 _ _ Tryz.underlying63]; omega
      · subst h0 h1; simp [h2, p1, p2, p3, run_equalIn_int w d 63 .u64 .u64 _ _ Tryz.underlying63]; omega
    · subst h0; simp [h1, p1, p2, p3, run_equalIn_int w d 63 .u64 .u64 _ _ Tryz.underlying63]; omega
  · simp [h0, p1, p2, p3, run_equalIn_int w d 63 .u64 .u64 _ _ Tryz.underlying63]; omega

end Go.Proofs.YtonlcnmlklaicaaGreatDoor
namespace Go.Proofs.YtonlcnmlklaicaaGreatDoor
open Go.ChangeShapes Go.WideShapes Go.ChangeAt Go.RowKit

set_option maxRecDepth 20000 in
theorem gTab : Tryz.prog.globalNamed "math/bits.deBruijn64tab" = some 0 := by kernel_rfl
set_option maxRecDepth 20000 in
theorem gTabType : (Tryz.prog.globals[0]?).map (·.type) = some 138 := by kernel_rfl
set_option maxRecDepth 20000 in
theorem cellsTab : Tryz.prog.cellsOf 138 = 64 := by kernel_rfl
set_option maxRecDepth 20000 in
theorem cellsU8 : Tryz.prog.cellsOf 5 = 1 := by kernel_rfl
/-- the table lies as its initialiser lays it -/
def Tab (w : World) : Prop := TabAt 0 Lib.deBruijn64tab w
theorem Tab.keep {u u' : World} (h : Tab u) (hb : Below u.heap.size u u') : Tab u' := fun j hj => keep_cell hb (h j hj)
theorem laid_tab : (Rows.laid_math_bits_deBruijn64tab : DataW Unit) = Lib.tabData .u8 (Lib.deBruijn64tab.map fun (n : Nat) => (n : Int)) := by rfl
set_option maxRecDepth 20000 in
theorem table {W : World} (h : laidMetH Tryz.prog [("math/bits.deBruijn64tab", Rows.laid_math_bits_deBruijn64tab)] W) : Tab W := by
  rw [MakeChecks.laidMetH_plain _ _ _ (by kernel_rfl)] at h
  rw [laid_tab] at h
  have hT := Lib.tabIs_of_head (rest := []) gTab gTabType Tryz.underlying138 Tryz.underlying5 cellsU8 cellsTab h
  intro j hj
  rw [hT.cell gTab j (by simpa using hj)]
  simp [List.getD, List.getElem?_map, List.getElem?_eq_getElem hj]
def tab0 : Array Value := #[.int .u8 0, .int .u8 1, .int .u8 56, .int .u8 2, .int .u8 57, .int .u8 49, .int .u8 28, .int .u8 3, .int .u8 61, .int .u8 58, .int .u8 42, .int .u8 50, .int .u8 38, .int .u8 29, .int .u8 17, .int .u8 4, .int .u8 62, .int .u8 47, .int .u8 59, .int .u8 36, .int .u8 45, .int .u8 43, .int .u8 51, .int .u8 22, .int .u8 53, .int .u8 39, .int .u8 33, .int .u8 30, .int .u8 24, .int .u8 18, .int .u8 12, .int .u8 5, .int .u8 63, .int .u8 55, .int .u8 48, .int .u8 27, .int .u8 60, .int .u8 41, .int .u8 37, .int .u8 16, .int .u8 46, .int .u8 35, .int .u8 44, .int .u8 21, .int .u8 52, .int .u8 32, .int .u8 23, .int .u8 11, .int .u8 54, .int .u8 26, .int .u8 40, .int .u8 15, .int .u8 34, .int .u8 20, .int .u8 31, .int .u8 10, .int .u8 25, .int .u8 14, .int .u8 19, .int .u8 9, .int .u8 13, .int .u8 8, .int .u8 7, .int .u8 6]
def putTab (cs : Array Value) : Obj → Obj
  | .cells _ t frozen => .cells cs t frozen
  | o => o
/-- a world for the witness: the settled one, the table holding what its initialiser lays -/
noncomputable def laidWorld (os : Os) : World :=
  { World.holding Tryz.prog os ⟨#[], #[], []⟩ with heap := (World.holding Tryz.prog os ⟨#[], #[], []⟩).heap.modify 0 (putTab tab0) }

end Go.Proofs.YtonlcnmlklaicaaGreatDoor
namespace Go.Proofs.YtonlcnmlklaicaaGreatDoor
open Go.RowKit

set_option maxRecDepth 20000 in
theorem wantsC (op : Int) (w : World) : Calls Tryz.prog 25 #[.int .i64 op] w fun e w' => e = .returned (.int .i64 (wants op)) ∧ w' = w := by
  by_cases h1 : op = 1
  · subst h1; rw [show wants 1 = 0 by decide]; go_enter Tryz.func25, Tryz.ntmps25; go_wp2; go_ret; exact ⟨rfl, rfl⟩
  by_cases h2 : op = 2
  · subst h2; rw [show wants 2 = 0 by decide]; go_enter Tryz.func25, Tryz.ntmps25; go_wp2; go_ret; exact ⟨rfl, rfl⟩
  by_cases h3 : op = 3
  · subst h3; rw [show wants 3 = 2 by decide]; go_enter Tryz.func25, Tryz.ntmps25; go_wp2; go_ret; exact ⟨rfl, rfl⟩
  by_cases h4 : op = 4
  · subst h4; rw [show wants 4 = 2 by decide]; go_enter Tryz.func25, Tryz.ntmps25; go_wp2; go_ret; exact ⟨rfl, rfl⟩
  have c1 : (op == 1) = false := beq_eq_false_iff_ne.2 h1
  have c2 : (op == 2) = false := beq_eq_false_iff_ne.2 h2
  have c3 : (op == 3) = false := beq_eq_false_iff_ne.2 h3
  have c4 : (op == 4) = false := beq_eq_false_iff_ne.2 h4
  by_cases h5 : 5 ≤ op
  · by_cases h7 : op ≤ 7
    · have e : wants op = 1 := by unfold wants; rw [if_neg (by omega), if_neg (by omega), if_pos ⟨h5, h7⟩]
      rw [e]
      go_enter Tryz.func25, Tryz.ntmps25; go_wp2; go_ret; exact ⟨rfl, rfl⟩
    · have e : wants op = -1 := by unfold wants; rw [if_neg (by omega), if_neg (by omega), if_neg (by omega)]
      rw [e]
      go_enter Tryz.func25, Tryz.ntmps25; go_wp2; go_ret; exact ⟨rfl, rfl⟩
  · have e : wants op = -1 := by unfold wants; rw [if_neg (by omega), if_neg (by omega), if_neg (by omega)]
    rw [e]
    go_enter Tryz.func25, Tryz.ntmps25; go_wp2; go_ret; exact ⟨rfl, rfl⟩

theorem depth_none (l : List Cel) {k : Nat} (h : depthN l k = none) : ∀ m, k ≤ m → depthN l m = none
  | 0, hm => by
    have : k = 0 := by omega
    subst this; exact h
  | m + 1, hm => by
    by_cases e : k = m + 1
    · subst e; exact h
    · have ih := depth_none l h m (by omega)
      rw [depthN, ih]
theorem depth_succ (l : List Cel) {k : Nat} {d : Int} (h : depthN l k = some d) (hk : k < l.length) : depthN l (k + 1) = if badC d l[k] then none else some (d - wants l[k].op + 1) := by
  rw [depthN, h, List.getElem?_eq_getElem hk]
theorem wants_le (op : Int) : -1 ≤ wants op ∧ wants op ≤ 2 := by
  unfold wants
  split
  · omega
  · split
    · omega
    · split <;> omega
theorem right_end {l : List Cel} (h1 : 1 ≤ l.length) (h2 : l.length ≤ 60) {d : Int} (h : depthN l l.length = some d) : rightB l = (d == 1) := by
  unfold rightB
  rw [decide_eq_true h1, decide_eq_true h2, h, Bool.eq_iff_iff]
  simp
theorem right_bad {l : List Cel} (h : depthN l l.length = none) : rightB l = false := by
  unfold rightB
  rw [h]
  simp

set_option maxRecDepth 20000 in
set_option maxHeartbeats 4000000 in
theorem rightC (v : Value) (l : List Cel) (w : World) (hA : Cels w v l) : Calls Tryz.prog 16 #[v] w fun e w' => e = .returned (.bool (rightB l)) ∧ w' = w := by
  obtain ⟨av, cv, rfl, _, _, hFl, hAt⟩ := hA
  have hAt := hid hAt
  by_cases h0 : l.length < 1
  · have e : rightB l = false := by unfold rightB; rw [decide_eq_false (by omega : ¬ 1 ≤ l.length)]; rfl
    rw [e]
    have h0z : (l.length : Int) < 1 := by omega
    go_enter Tryz.func16, Tryz.ntmps16; go_wp2; go_ret; exact ⟨rfl, rfl⟩
  by_cases h60 : 60 < l.length
  · have e : rightB l = false := by unfold rightB; rw [decide_eq_false (by omega : ¬ l.length ≤ 60)]; simp
    rw [e]
    have h0z : ¬ (l.length : Int) < 1 := by omega
    have h60z : (60 : Int) < (l.length : Int) := by omega
    go_enter Tryz.func16, Tryz.ntmps16; go_wp2; go_ret; exact ⟨rfl, rfl⟩
  have h0z : ¬ (l.length : Int) < 1 := by omega
  have h60z : ¬ (60 : Int) < (l.length : Int) := by omega
  have hend := hid (fun d => @right_end l (by omega) (by omega) d)
  have hbad := hid (fun k (hk : k ≤ l.length) (h : depthN l k = none) => right_bad (depth_none l h l.length hk))
  have hsucc := hid (fun k d => @depth_succ l k d)
  have GW := hid wantsC
  generalize rightB l = R at hend hbad ⊢
  go_enter Tryz.func16, Tryz.ntmps16
  go_wp2
  go_loopw [3, 4] (fun d i wr => ∃ (k : Nat) (z : Int), k ≤ l.length ∧ i = .int .i64 k ∧ d = .int .i64 z ∧ Hid (depthN l k = some z) ∧ 0 ≤ z ∧ z ≤ k ∧ Hid (wr = w)) (fun _ i _ => l.length - (intOf i).toNat)
  case atStart => exact ⟨0, 0, Nat.zero_le _, rfl, rfl, hid rfl, Int.le_refl _, by omega, hid rfl⟩
  case round =>
    obtain ⟨k, z, hk, rfl, rfl, hdep, hz0, hzk, hwr⟩ := hrel
    have hwr' := hwr.out
    subst hwr'
    by_cases hlt : k < l.length
    · have hltz : (k : Int) < (l.length : Int) := by omega
      obtain ⟨b', o', rfl, hb', hat⟩ := hAt.out k hlt
      have hs := hid (hsucc.out k z hdep.out hlt)
      have hbk := hid (hbad.out (k + 1) (by omega))
      generalize l[k] = c at hat hs
      obtain ⟨op, S⟩ := c
      obtain ⟨sa, sb, sc, sd⟩ := S
      obtain ⟨d0, d1, d2, d3, d4⟩ := hat
      simp only at d0 d1 d2 d3 d4
      have GW0 := hid (fun u => GW.out op u)
      have hwl := wants_le op
      unfold badC at hs
      simp only at hs
      generalize wants op = q at GW0 hs hwl
      have he : ∀ u, (Op.equalIn 10000 65 (.agg #[.int .u64 (sa : Int), .int .u64 (sb : Int), .int .u64 (sc : Int), .int .u64 (sd : Int)]) (.agg #[.int .u64 0, .int .u64 0, .int .u64 0, .int .u64 0])).run Tryz.prog u = .ok (decide ((⟨sa, sb, sc, sd⟩ : W4) = noneB)) u := fun u => equal4 9998 sa sb sc sd 0 0 0 0 u
      have hgt := Tryz.eqGuardType65
      generalize decide ((⟨sa, sb, sc, sd⟩ : W4) = noneB) = E at he hs
      have hop : decide (op = 1) = (op == 1) := by rw [Bool.eq_iff_iff]; simp
      rw [hop] at hs
      clear hop
      by_cases hq : q < 0
      · have hR : R = false := hbk.out (by rw [hs.out, decide_eq_true hq]; rfl)
        subst hR
        go_wp2_with (go_at_call 25; refine (GW0.out _).mono ?_; rintro e u1 ⟨rfl, hu⟩; subst u1)
        go_ret
        exact ⟨rfl, rfl⟩
      · by_cases hd : z < q
        · have hR : R = false := hbk.out (by rw [hs.out, decide_eq_true hd, Bool.or_true]; rfl)
          subst hR
          go_wp2_with (go_at_call 25; refine (GW0.out _).mono ?_; rintro e u1 ⟨rfl, hu⟩; subst u1)
          go_ret
          exact ⟨rfl, rfl⟩
        · rw [decide_eq_false hq, decide_eq_false hd, Bool.false_or, Bool.false_or] at hs
          cases hb : (E == (op == 1)) with
          | true =>
            have hR : R = false := hbk.out (by rw [hs.out, hb]; rfl)
            subst hR
            clear hs
            go_wp2_with (go_at_call 25; refine (GW0.out _).mono ?_; rintro e u1 ⟨rfl, hu⟩; subst u1)
            go_ret
            exact ⟨rfl, rfl⟩
          | false =>
            rw [hb, if_neg Bool.false_ne_true] at hs
            go_wp2_with (go_at_call 25; refine (GW0.out _).mono ?_; rintro e u1 ⟨rfl, hu⟩; subst u1)
            exact ⟨⟨k + 1, z - q + 1, by omega, by go_num, by go_num, hs, by omega, by omega, by first | exact hid rfl | exact hid trivial⟩, by simp [intOf]; omega⟩
    · have hltz : ¬ (k : Int) < (l.length : Int) := by omega
      have e : k = l.length := by omega
      subst e
      have hR := hend.out z hdep.out
      go_wp2
      go_ret
      exact ⟨by first | rfl | rw [hR], rfl⟩

end Go.Proofs.YtonlcnmlklaicaaGreatDoor
namespace Go.Proofs.YtonlcnmlklaicaaGreatDoor
open Go.RowKit

/-- a rule's operands, the last first, and its own cell -/
def kids : Rx → List Rx
  | .set _ => []
  | .eps => []
  | .cat a b => [b, a]
  | .or a b => [b, a]
  | .star a => [a]
  | .plus a => [a]
  | .opt a => [a]
def rootC : Rx → Cel
  | .set S => ⟨1, S⟩
  | .eps => ⟨2, noneB⟩
  | .cat _ _ => ⟨3, noneB⟩
  | .or _ _ => ⟨4, noneB⟩
  | .star _ => ⟨5, noneB⟩
  | .plus _ => ⟨6, noneB⟩
  | .opt _ => ⟨7, noneB⟩
theorem lain_kids (t : Rx) (st : List Rx) : lain (kids t ++ st) ++ [rootC t] = lain (t :: st) := by
  cases t <;> simp [kids, rootC, lain, post]
theorem wants_root (t : Rx) : wants (rootC t).op = ((kids t).length : Int) := by
  cases t <;> simp [wants, rootC, kids]
theorem lain_len (t : Rx) (st : List Rx) : (lain (t :: st)).length = (lain (kids t ++ st)).length + 1 := by
  rw [← lain_kids, List.length_append]; rfl
theorem lain_cells (st : List Rx) : st.length ≤ (lain st).length := by
  induction st with
  | nil => simp
  | cons t st ih =>
    have := post_pos t
    simp [lain]
    omega
/-- the last cell of what lies there -/
theorem lain_last {l pre suf : List Cel} {t : Rx} {st : List Rx} (h : l = pre ++ (lain (t :: st) ++ suf)) : l[pre.length + (lain (kids t ++ st)).length]? = some (rootC t) ∧ l = pre ++ (lain (kids t ++ st) ++ (rootC t :: suf)) := by
  have e : l = pre ++ (lain (kids t ++ st) ++ (rootC t :: suf)) := by rw [h, ← lain_kids]; simp
  refine ⟨?_, e⟩
  rw [e, List.getElem?_append_right (by omega), List.getElem?_append_right (by omega)]
  simp
/-- a cell of the list, where it lies -/
theorem cel_at {w : World} {a : Option Addr} {l : List Cel} (hAt : ∀ j (h : j < l.length), ∃ b o, a = some ⟨b, o, none⟩ ∧ b < w.heap.size ∧ At5 w b (o + j * 5) l[j]) {j : Nat} {c : Cel} (h : l[j]? = some c) : j < l.length ∧ ∃ b o, a = some ⟨b, o, none⟩ ∧ At5 w b (o + j * 5) c := by
  have hlt : j < l.length := by
    rcases Nat.lt_or_ge j l.length with h' | h'
    · exact h'
    · rw [List.getElem?_eq_none h'] at h; cases h
  rw [List.getElem?_eq_getElem hlt] at h
  injection h with h
  obtain ⟨b, o, ha, _, h5⟩ := hAt j hlt
  exact ⟨hlt, b, o, ha, h ▸ h5⟩

set_option maxRecDepth 20000 in
set_option maxHeartbeats 2000000 in
theorem fromC (v : Value) (l pre suf : List Cel) (t : Rx) (E : Int) (w : World) (hA : Cels w v l) (hl : l.length ≤ 60) (h : l = pre ++ (post t ++ suf)) (hE : E + 1 = ((pre.length + (post t).length : Nat) : Int)) :
    Calls Tryz.prog 46 #[v, .int .i64 E] w fun e w' => e = .returned (.int .i64 (pre.length : Int)) ∧ w' = w := by
  obtain ⟨av, cv, rfl, _, _, _, hAt⟩ := hA
  have hAt := hid (fun j c => @cel_at w av l hAt j c)
  have GW := hid wantsC
  have hL0 : (lain [t]).length = (post t).length := by simp [lain]
  have hpl : pre.length + (post t).length ≤ 60 := by
    have := congrArg List.length h
    simp at this
    omega
  have hst0 : Hid (∃ suf', l = pre ++ (lain [t] ++ suf')) := hid ⟨suf, by rw [h]; simp [lain]⟩
  clear h
  go_enter Tryz.func46, Tryz.ntmps46
  go_wp2
  go_loopw [5, 6] (fun nd i wr => ∃ (st : List Rx) (z : Int), nd = .int .i64 (st.length : Int) ∧ i = .int .i64 z ∧ z + 1 = ((pre.length + (lain st).length : Nat) : Int) ∧ pre.length + (lain st).length ≤ 60 ∧ Hid (∃ suf', l = pre ++ (lain st ++ suf')) ∧ Hid (wr = w)) (fun _ i _ => (intOf i + 1).toNat)
  case atStart => exact ⟨[t], E, rfl, rfl, by rw [hL0]; exact hE, by omega, hst0, hid rfl⟩
  case round =>
    obtain ⟨st, z, rfl, rfl, hz, hle, hsuf, hwr⟩ := hrel
    have hwr' := hwr.out
    subst hwr'
    have hsl := lain_cells st
    cases st with
    | nil =>
      have e : z = (pre.length : Int) - 1 := by simp [lain] at hz; omega
      subst e
      go_wp2
      go_ret
      exact ⟨by first | rfl | (simp; omega), rfl⟩
    | cons u st =>
      obtain ⟨suf', hs⟩ := hsuf.out
      obtain ⟨hc, hs'⟩ := lain_last hs
      have hlen := lain_len u st
      have hk2 := hid (wants_root u)
      have hkl : (kids u).length ≤ 2 := by cases u <;> simp [kids]
      have hnew := hid (show ∃ suf', wr = wr ∧ l = pre ++ (lain (kids u ++ st) ++ suf') from ⟨_, rfl, hs'⟩)
      obtain ⟨hjl, b', o', rfl, hat⟩ := hAt.out _ _ hc
      have GW0 := hid (fun w => GW.out (rootC u).op w)
      rw [hk2.out] at GW0
      obtain ⟨d0, -, -, -, -⟩ := hat
      have hsl1 := lain_cells (kids u ++ st)
      generalize (rootC u).op = op at d0 GW0
      clear hc hs hs' hsuf hk2
      rw [hlen] at hle hsl hz
      have hn1 : ((u :: st).length : Int) = (st.length : Int) + 1 := by simp
      have hn2 : (kids u ++ st).length = (kids u).length + st.length := by simp
      rw [hn1]
      have hpos : (0 : Int) < (st.length : Int) + 1 := by omega
      generalize hM : (lain (kids u ++ st)).length = M at d0 hjl hle hsl hsl1 hz
      generalize hQ : (kids u).length = q at GW0 hkl hn2
      generalize hJ : pre.length + M = J at d0 hjl
      obtain rfl : z = (J : Int) := by omega
      have hjz : (J : Int) < (l.length : Int) := by omega
      go_wp2_with (go_at_call 25; refine (GW0.out _).mono ?_; rintro e u1 ⟨rfl, hu⟩; subst u1)
      obtain ⟨suf2, _, hs2⟩ := hnew.out
      exact ⟨⟨kids u ++ st, (J : Int) - 1, by rw [hn2]; go_num, by go_num, by rw [hM]; omega, by omega, hid ⟨suf2, hs2⟩, by first | exact hid rfl | exact hid trivial⟩, by simp [intOf]⟩

end Go.Proofs.YtonlcnmlklaicaaGreatDoor
