/- Right of package regex. shownCell: the text of a cell, by those of its operands. -/
import Derived.Test.YtjiljfmejgiabaaDoorJ8
import Derived.Test.YtjiljfmejgiabaaDoorJ20
import Derived.Test.YtjiljfmejgiabaaDoorJ10
import Derived.Test.YtjiljfmejgiabaaDoorJ24
namespace Go.Proofs.YtjiljfmejgiabaaDoor
open Go.RowKit

theorem operandsC (op : Int) (w : World) : Calls Tryd.prog 20 #[.int .i64 op] w fun e w' => e = .returned (.int .i64 (wants op)) ∧ w' = w := by
  by_cases h1 : op = 1
  · subst h1; rw [show wants 1 = 0 by decide]; go_enter Tryd.func20, Tryd.ntmps20; go_wp2; go_ret; exact ⟨rfl, rfl⟩
  by_cases h2 : op = 2
  · subst h2; rw [show wants 2 = 0 by decide]; go_enter Tryd.func20, Tryd.ntmps20; go_wp2; go_ret; exact ⟨rfl, rfl⟩
  by_cases h3 : op = 3
  · subst h3; rw [show wants 3 = 2 by decide]; go_enter Tryd.func20, Tryd.ntmps20; go_wp2; go_ret; exact ⟨rfl, rfl⟩
  by_cases h4 : op = 4
  · subst h4; rw [show wants 4 = 2 by decide]; go_enter Tryd.func20, Tryd.ntmps20; go_wp2; go_ret; exact ⟨rfl, rfl⟩
  by_cases h5 : op = 5
  · subst h5; rw [show wants 5 = 1 by decide]; go_enter Tryd.func20, Tryd.ntmps20; go_wp2; go_ret; exact ⟨rfl, rfl⟩
  by_cases h6 : op = 6
  · subst h6; rw [show wants 6 = 1 by decide]; go_enter Tryd.func20, Tryd.ntmps20; go_wp2; go_ret; exact ⟨rfl, rfl⟩
  by_cases h7 : op = 7
  · subst h7; rw [show wants 7 = 1 by decide]; go_enter Tryd.func20, Tryd.ntmps20; go_wp2; go_ret; exact ⟨rfl, rfl⟩
  have c1 : (op == 1) = false := beq_eq_false_iff_ne.2 h1
  have c2 : (op == 2) = false := beq_eq_false_iff_ne.2 h2
  have c3 : (op == 3) = false := beq_eq_false_iff_ne.2 h3
  have c4 : (op == 4) = false := beq_eq_false_iff_ne.2 h4
  have c5 : (op == 5) = false := beq_eq_false_iff_ne.2 h5
  have c6 : (op == 6) = false := beq_eq_false_iff_ne.2 h6
  have c7 : (op == 7) = false := beq_eq_false_iff_ne.2 h7
  have e : wants op = -1 := by unfold wants; rw [if_neg (by omega), if_neg (by omega), if_neg (by omega)]
  rw [e]
  clear h1 h2 h3 h4 h5 h6 h7
  go_enter Tryd.func20, Tryd.ntmps20; go_wp2; go_ret; exact ⟨rfl, rfl⟩

/-- a cell as a value -/
abbrev celV (op : Int) (a b c d : Nat) : Value := .agg #[.int .i64 op, .int .u64 (a : Int), .int .u64 (b : Int), .int .u64 (c : Int), .int .u64 (d : Int)]
theorem cells5 {w : World} {b : Nat} {x0 x1 x2 x3 x4 : Value} {T : TypeId} (h : w.heap[b]? = some (.cells #[x0, x1, x2, x3, x4] T (0, 0))) :
    w.cell? ⟨b, 0, none⟩ = some x0 ∧ w.cell? ⟨b, 1, none⟩ = some x1 ∧ w.cell? ⟨b, 2, none⟩ = some x2 ∧ w.cell? ⟨b, 3, none⟩ = some x3 ∧ w.cell? ⟨b, 4, none⟩ = some x4 := ⟨blk_cell h rfl, blk_cell h rfl, blk_cell h rfl, blk_cell h rfl, blk_cell h rfl⟩

set_option maxHeartbeats 1000000 in
theorem rightSetC (op : Int) (a b c d : Nat) (w : World) : Calls Tryd.prog 21 #[celV op a b c d] w fun e w' => e = .returned (.bool (!(decide ((⟨a, b, c, d⟩ : W4) = noneB) == (op == 1)))) ∧ Below w.heap.size w w' := by
  have he : ∀ u, (Op.equalIn 10000 44 (.agg #[.int .u64 (a : Int), .int .u64 (b : Int), .int .u64 (c : Int), .int .u64 (d : Int)]) (.agg #[.int .u64 0, .int .u64 0, .int .u64 0, .int .u64 0])).run Tryd.prog u = .ok (decide ((⟨a, b, c, d⟩ : W4) = noneB)) u := fun u => equal4 9998 a b c d 0 0 0 0 u
  generalize decide ((⟨a, b, c, d⟩ : W4) = noneB) = E at he ⊢
  have hb : ∀ x y : Bool, ∀ u, (binOp .eql 4 (.bool x) (.bool y)).run Tryd.prog u = .ok (.bool (x == y)) u := fun x y u => by cases x <;> cases y <;> kernel_rfl
  go_enter Tryd.func21, Tryd.ntmps21
  go_wp2_with fail
  go_quiet (fail)
  go_wp2
  go_ret
  refine ⟨?_, ?_⟩
  · cases E <;> cases (op == 1) <;> rfl
  · exact (al' w _).trans ⟨rfl, rfl, rfl, Nat.le_refl _, fun _ _ => rfl⟩

set_option maxHeartbeats 4000000 in
theorem rightP (v : Value) (l : List Cel) (w : World) (hA : Cels w v l) : Calls Tryd.prog 13 #[v] w fun e w' => e = .returned (.bool (rightB l)) ∧ Below w.heap.size w w' := by
  obtain ⟨av, cv, rfl, _, _, hFl, hAt⟩ := hA
  have hAt := hid hAt
  by_cases h60 : 60 < l.length
  · have e : rightB l = false := by unfold rightB; rw [decide_eq_false (by omega : ¬ l.length ≤ 60)]; simp
    rw [e]
    have h60z : (60 : Int) < (l.length : Int) := by omega
    go_enter Tryd.func13, Tryd.ntmps13; go_wp2; go_ret; exact ⟨rfl, Below.refl _ _⟩
  have h60z : ¬ (60 : Int) < (l.length : Int) := by omega
  have hend := hid (fun (h : 1 ≤ l.length) d => @right_end l h (by omega) d)
  have hnil : Hid (l.length = 0 → rightB l = false) := hid (fun h => by unfold rightB; rw [decide_eq_false (by omega : ¬ 1 ≤ l.length)]; rfl)
  have hbad := hid (fun k (hk : k ≤ l.length) (h : depthN l k = none) => right_bad (depth_none l h l.length hk))
  have hsucc := hid (fun k d => @depth_succ l k d)
  have GW := hid operandsC
  have GS := hid rightSetC
  generalize rightB l = R at hend hbad hnil ⊢
  go_enter Tryd.func13, Tryd.ntmps13
  go_wp2
  go_loopw [3, 12] (fun d i wr => ∃ (k : Nat) (z : Int), k ≤ l.length ∧ i = .int .i64 k ∧ d = .int .i64 z ∧ Hid (depthN l k = some z) ∧ 0 ≤ z ∧ z ≤ k ∧ Below w.heap.size w wr) (fun _ i _ => l.length - (intOf i).toNat)
  case atStart => exact ⟨0, 0, Nat.zero_le _, rfl, rfl, hid rfl, Int.le_refl _, by omega, Below.refl _ _⟩
  case round =>
    obtain ⟨k, z, hk, rfl, rfl, hdep, hz0, hzk, hbl⟩ := hrel
    by_cases hlt : k < l.length
    · have hltz : (k : Int) < (l.length : Int) := by omega
      obtain ⟨b', o', rfl, hb', hat0⟩ := hAt.out k hlt
      have hat := hat0.keep hbl
      clear hat0
      have hs := hid (hsucc.out k z hdep.out hlt)
      have hbk := hid (hbad.out (k + 1) (by omega))
      generalize l[k] = c at hat hs
      obtain ⟨op, S⟩ := c
      obtain ⟨sa, sb, sc, sd⟩ := S
      obtain ⟨d0, d1, d2, d3, d4⟩ := hat
      simp only at d0 d1 d2 d3 d4
      have GW0 := hid (fun u => GW.out op u)
      have GS0 := hid (fun u => GS.out op sa sb sc sd u)
      have hwl := wants_le op
      have hbb := hid (al' wr (.cells #[.int .i64 op, .int .u64 (sa : Int), .int .u64 (sb : Int), .int .u64 (sc : Int), .int .u64 (sd : Int)] 46))
      unfold badC at hs
      simp only at hs
      generalize wants op = q at GW0 hs hwl
      have hop : decide (op = 1) = (op == 1) := by rw [Bool.eq_iff_iff]; simp
      rw [hop] at hs
      clear hop
      generalize (decide ((⟨sa, sb, sc, sd⟩ : W4) = noneB) == (op == 1)) = E at GS0 hs
      by_cases hq : q < 0
      · have hR : R = false := hbk.out (by rw [hs.out, decide_eq_true hq]; rfl)
        subst hR
        go_wp2_with (go_at_call 20; refine (GW0.out _).mono ?_; rintro e u1 ⟨rfl, hu⟩; subst u1)
        go_ret
        exact ⟨rfl, bl_step hbl hbb.out⟩
      · by_cases hd : z < q
        · have hR : R = false := hbk.out (by rw [hs.out, decide_eq_true hd, Bool.or_true]; rfl)
          subst hR
          go_wp2_with (go_at_call 20; refine (GW0.out _).mono ?_; rintro e u1 ⟨rfl, hu⟩; subst u1)
          go_ret
          exact ⟨rfl, bl_step hbl hbb.out⟩
        · rw [decide_eq_false hq, decide_eq_false hd, Bool.false_or, Bool.false_or] at hs
          cases E with
          | true =>
            have hR : R = false := hbk.out (by rw [hs.out]; rfl)
            subst hR
            clear hs
            go_wp2_with (first
              | (go_at_call 20; refine (GW0.out _).mono ?_; rintro e u1 ⟨rfl, hu⟩; subst u1)
              | (go_at_call 21; refine (GS0.out _).mono ?_; rintro e w1 ⟨rfl, hb1⟩))
            go_ret
            exact ⟨rfl, bl_step (bl_step hbl hbb.out) hb1⟩
          | false =>
            rw [if_neg Bool.false_ne_true] at hs
            go_wp2_with (first
              | (go_at_call 20; refine (GW0.out _).mono ?_; rintro e u1 ⟨rfl, hu⟩; subst u1)
              | (go_at_call 21; refine (GS0.out _).mono ?_; rintro e w1 ⟨rfl, hb1⟩))
            go_roundw
            case rel => exact ⟨k + 1, z - q + 1, by omega, by go_num, by go_num, hs, by omega, by omega, bl_step (bl_step hbl hbb.out) hb1⟩
            case measure => simp [intOf]; omega
    · have hltz : ¬ (k : Int) < (l.length : Int) := by omega
      have e : k = l.length := by omega
      subst e
      by_cases hl0 : l.length = 0
      · have hR := hnil.out hl0
        have hz : z = 0 := by omega
        subst hz
        subst hR
        go_wp2
        go_ret
        exact ⟨rfl, hbl⟩
      · have hR := hend.out (by omega) z hdep.out
        clear hl0
        go_wp2
        go_ret
        exact ⟨by first | rfl | rw [hR], hbl⟩

end Go.Proofs.YtjiljfmejgiabaaDoor
namespace Go.Proofs.YtjiljfmejgiabaaDoor
open Go.RowKit

/-- parentheses about what holds together less -/
def wi (p q : Nat) (X : Txt) : Txt := if p < q then 40 :: (X ++ [41]) else X
theorem wi_len (p q : Nat) (X : Txt) : (wi p q X).length ≤ X.length + 2 := by unfold wi; split <;> simp
abbrev shV (X : ByteArray) (p : Int) : Value := .agg #[.string X, .int .i64 p]
theorem withinC (X : Txt) (p q : Nat) (w : World) (_hp : p ≤ 2) (_hq : q ≤ 2) (hX : X.length ≤ 200000) :
    Calls Tryd.prog 24 #[shV (strT X) (p : Int), .int .i64 (q : Int)] w fun e w' => e = .returned (.string (strT (wi p q X))) ∧ Below w.heap.size w w' := by
  have hs : (strT X).size ≤ 200000 := by rw [strT_size]; exact hX
  by_cases h : p < q
  · have hz : (p : Int) < (q : Int) := by omega
    have e : strT (wi p q X) = ⟨#[40]⟩ ++ strT X ++ ⟨#[41]⟩ := by
      unfold wi
      rw [if_pos h, show (⟨#[40]⟩ : ByteArray) = strT [40] from rfl, show (⟨#[41]⟩ : ByteArray) = strT [41] from rfl, strT_app, strT_app]
      rfl
    rw [e]
    generalize strT X = Y at hs ⊢
    have h1 : (⟨#[40]⟩ : ByteArray).size = 1 := rfl
    have h2 : (⟨#[41]⟩ : ByteArray).size = 1 := rfl
    have k1 := fun u => run_cat ⟨#[40]⟩ Y u (by omega)
    have k2 := fun u => run_cat (⟨#[40]⟩ ++ Y) ⟨#[41]⟩ u (by rw [ByteArray.size_append]; omega)
    clear e h1 h2
    go_enter Tryd.func24, Tryd.ntmps24
    go_wp2
    go_ret
    exact ⟨rfl, al' w _⟩
  · have hz : ¬ (p : Int) < (q : Int) := by omega
    have e : wi p q X = X := by unfold wi; rw [if_neg h]
    rw [e]
    generalize strT X = Y at hs ⊢
    clear e
    go_enter Tryd.func24, Tryd.ntmps24
    go_wp2
    go_ret
    exact ⟨rfl, al' w _⟩

abbrev shB0 (w : World) (op : Int) (a b c d : Nat) : World := (w.alloc (.cells #[.int .i64 op, .int .u64 (a : Int), .int .u64 (b : Int), .int .u64 (c : Int), .int .u64 (d : Int)] 46)).alloc (.cells #[.string ⟨#[]⟩, .int .i64 0] 37)
theorem shB0_below (w : World) (op : Int) (a b c d : Nat) : Below w.heap.size w (shB0 w op a b c d) := bl_step (al' w _) (al' _ _)
theorem shB0_res (w : World) (op : Int) (a b c d : Nat) : (shB0 w op a b c d).heap[w.heap.size + 1]? = some (.cells #[.string ⟨#[]⟩, .int .i64 0] 37 (0, 0)) := (two_blocks w _ _).2
theorem res2 {w : World} {b : Nat} {x0 x1 : Value} {T : TypeId} (h : w.heap[b]? = some (.cells #[x0, x1] T (0, 0))) :
    w.cell? ⟨b, 0, none⟩ = some x0 ∧ w.cell? ⟨b, 1, none⟩ = some x1 ∧ w.frozen? ⟨b, 0, none⟩ = false ∧ w.frozen? ⟨b, 1, none⟩ = false := ⟨blk_cell h rfl, blk_cell h rfl, blk_frozen h 0, blk_frozen h 1⟩
theorem bl_two {B : Nat} {u w : World} (h : Below B u w) {b : Nat} (v0 v1 : Value) (hb : B ≤ b) : Below B u ((w.setCell ⟨b, 0, none⟩ v0).setCell ⟨b, 1, none⟩ v1) := bl_set (bl_set h _ _ _ hb) _ _ _ hb

set_option maxHeartbeats 2000000 in
theorem shSet (a b c d : Nat) (v : Value) (w : World) (hS : Fit4 ⟨a, b, c, d⟩) (hT : Tab w) : Calls Tryd.prog 16 #[celV 1 a b c d, v] w fun e w' => e = .returned (shV (strT (toldL ⟨a, b, c, d⟩)) 2) ∧ Below w.heap.size w w' := by
  have G := hid (fun u (hu : Below w.heap.size w u) => setTextC a b c d u hS (hT.keep hu))
  have hB := hid (shB0_below w 1 a b c d)
  have hR := hid (shB0_res w 1 a b c d)
  generalize strT (toldL ⟨a, b, c, d⟩) = X at G ⊢
  clear hS hT
  go_enter Tryd.func16, Tryd.ntmps16
  go_wp2_with (go_at_call 23; refine (G.out _ hB.out).mono ?_; rintro e w1 ⟨rfl, hb1⟩; obtain ⟨r0, r1, r2, r3⟩ := res2 ((hb1.block _ (blk_lt hR.out)).trans hR.out))
  refine bodyPost_ret (v := .agg #[.string X, .int .i64 2]) (by simp [results, Tryd.results16, go_sem, r0, r1]) rfl ⟨rfl, bl_two (bl_step hB.out hb1) _ _ (by omega)⟩

theorem shEps (a b c d : Nat) (v : Value) (w : World) : Calls Tryd.prog 16 #[celV 2 a b c d, v] w fun e w' => e = .returned (shV (strT [40, 41]) 2) ∧ Below w.heap.size w w' := by
  rw [show strT [40, 41] = ⟨#[40, 41]⟩ from rfl]
  go_enter Tryd.func16, Tryd.ntmps16
  go_wp2
  refine bodyPost_ret (v := .agg #[.string ⟨#[40, 41]⟩, .int .i64 2]) (by simp [results, Tryd.results16, go_sem]) rfl ⟨rfl, bl_step (al' w _) (al' _ _)⟩

/-- the sign of an operator of one operand -/
def signO (op : Int) : UInt8 := if op = 5 then 42 else if op = 6 then 43 else 63
set_option maxHeartbeats 2000000 in
theorem shOne (op : Int) (a b c d : Nat) (X : Txt) (p : Nat) (g o cap : Nat) (w : World) (ho : op = 5 ∨ op = 6 ∨ op = 7) (hp : p ≤ 2) (hX : X.length ≤ 200000) (c0 : w.cell? ⟨g, o, none⟩ = some (.string (strT X))) (c1 : w.cell? ⟨g, o + 1, none⟩ = some (.int .i64 (p : Int))) :
    Calls Tryd.prog 16 #[celV op a b c d, .slice (some ⟨g, o, none⟩) 1 cap] w fun e w' => e = .returned (shV (strT (wi p 2 X ++ [signO op])) 2) ∧ Below w.heap.size w w' := by
  have G := hid (fun u => withinC X p 2 u hp (by omega) hX)
  rw [show ((2 : Nat) : Int) = 2 from rfl] at G
  have hB := hid (shB0_below w op a b c d)
  have hR := hid (shB0_res w op a b c d)
  have e0 := keep_cell hB.out c0
  have e1 := keep_cell hB.out c1
  have hl : (strT (wi p 2 X)).size ≤ 200002 := by rw [strT_size]; have := wi_len p 2 X; omega
  rw [← strT_app]
  generalize strT (wi p 2 X) = Y at G hl ⊢
  generalize strT X = Z at G c0 e0
  clear hX
  rcases ho with rfl | rfl | rfl
  · rw [show strT [signO 5] = ⟨#[42]⟩ from rfl]
    have h1 : (⟨#[42]⟩ : ByteArray).size = 1 := rfl
    have k1 := fun u => run_cat Y ⟨#[42]⟩ u (by omega)
    clear h1
    go_enter Tryd.func16, Tryd.ntmps16
    go_wp2_with (go_at_call 24; refine (G.out _).mono ?_; rintro e w1 ⟨rfl, hb1⟩; obtain ⟨r0, r1, r2, r3⟩ := res2 ((hb1.block _ (blk_lt hR.out)).trans hR.out))
    refine bodyPost_ret (v := .agg #[.string (Y ++ ⟨#[42]⟩), .int .i64 2]) (by simp [results, Tryd.results16, go_sem, r0, r1]) rfl ⟨rfl, bl_two (bl_step hB.out hb1) _ _ (by omega)⟩
  · rw [show strT [signO 6] = ⟨#[43]⟩ from rfl]
    have h1 : (⟨#[43]⟩ : ByteArray).size = 1 := rfl
    have k1 := fun u => run_cat Y ⟨#[43]⟩ u (by omega)
    clear h1
    go_enter Tryd.func16, Tryd.ntmps16
    go_wp2_with (go_at_call 24; refine (G.out _).mono ?_; rintro e w1 ⟨rfl, hb1⟩; obtain ⟨r0, r1, r2, r3⟩ := res2 ((hb1.block _ (blk_lt hR.out)).trans hR.out))
    refine bodyPost_ret (v := .agg #[.string (Y ++ ⟨#[43]⟩), .int .i64 2]) (by simp [results, Tryd.results16, go_sem, r0, r1]) rfl ⟨rfl, bl_two (bl_step hB.out hb1) _ _ (by omega)⟩
  · rw [show strT [signO 7] = ⟨#[63]⟩ from rfl]
    have h1 : (⟨#[63]⟩ : ByteArray).size = 1 := rfl
    have k1 := fun u => run_cat Y ⟨#[63]⟩ u (by omega)
    clear h1
    go_enter Tryd.func16, Tryd.ntmps16
    go_wp2_with (go_at_call 24; refine (G.out _).mono ?_; rintro e w1 ⟨rfl, hb1⟩; obtain ⟨r0, r1, r2, r3⟩ := res2 ((hb1.block _ (blk_lt hR.out)).trans hR.out))
    refine bodyPost_ret (v := .agg #[.string (Y ++ ⟨#[63]⟩), .int .i64 2]) (by simp [results, Tryd.results16, go_sem, r0, r1]) rfl ⟨rfl, bl_two (bl_step hB.out hb1) _ _ (by omega)⟩

set_option maxHeartbeats 4000000 in
theorem shCat (a b c d : Nat) (X Y : Txt) (p q : Nat) (g o cap : Nat) (w : World) (hp : p ≤ 2) (hq : q ≤ 2) (hX : X.length ≤ 200000) (hY : Y.length ≤ 200000) (c0 : w.cell? ⟨g, o, none⟩ = some (.string (strT X))) (c1 : w.cell? ⟨g, o + 1, none⟩ = some (.int .i64 (p : Int))) (c2 : w.cell? ⟨g, o + 2, none⟩ = some (.string (strT Y))) (c3 : w.cell? ⟨g, o + 3, none⟩ = some (.int .i64 (q : Int))) :
    Calls Tryd.prog 16 #[celV 3 a b c d, .slice (some ⟨g, o, none⟩) 2 cap] w fun e w' => e = .returned (shV (strT (wi p 1 X ++ wi q 2 Y)) 1) ∧ Below w.heap.size w w' := by
  have G1 := hid (fun u => withinC X p 1 u hp (by omega) hX)
  have G2 := hid (fun u => withinC Y q 2 u hq (by omega) hY)
  rw [show ((2 : Nat) : Int) = 2 from rfl] at G2
  rw [show ((1 : Nat) : Int) = 1 from rfl] at G1
  have hB := hid (shB0_below w 3 a b c d).drew
  have hR := hid (show (shB0 w 3 a b c d).drew.heap[w.heap.size + 1]? = some (.cells #[.string ⟨#[]⟩, .int .i64 0] 37 (0, 0)) from shB0_res w 3 a b c d)
  have e0 := keep_cell hB.out c0
  have e1 := keep_cell hB.out c1
  have e2 := keep_cell hB.out c2
  have e3 := keep_cell hB.out c3
  have hK := hid (fun u v (h : Below (shB0 w 3 a b c d).drew.heap.size (shB0 w 3 a b c d).drew u) (o : Nat) (hc : (shB0 w 3 a b c d).drew.cell? ⟨g, o, none⟩ = some v) => keep_cell h hc)
  have hl : (strT (wi p 1 X)).size ≤ 200002 := by rw [strT_size]; have := wi_len p 1 X; omega
  have hl2 : (strT (wi q 2 Y)).size ≤ 200002 := by rw [strT_size]; have := wi_len q 2 Y; omega
  rw [← strT_app]
  generalize strT (wi p 1 X) = U at G1 hl ⊢
  generalize strT (wi q 2 Y) = V at G2 hl2 ⊢
  generalize strT X = X' at G1 c0 e0
  generalize strT Y = Y' at G2 c2 e2
  have k1 := fun u => run_cat U V u (by omega)
  clear hX hY
  go_enter Tryd.func16, Tryd.ntmps16
  go_wp2_with fail
  go_region_with (first
    | (go_at_call_of 24 (Value.int .i64 1); refine (G1.out _).mono ?_; rintro e w1 ⟨rfl, hb1⟩; have x0 := hK.out w1 _ hb1 _ e0; have x1 := hK.out w1 _ hb1 _ e1; have x2 := hK.out w1 _ hb1 _ e2; have x3 := hK.out w1 _ hb1 _ e3)
    | (go_at_call_of 24 (Value.int .i64 2); refine (G2.out _).mono ?_; rintro e w2 ⟨rfl, hb2⟩; have hb12 := bl_step hb1 hb2; obtain ⟨r0, r1, r2, r3⟩ := res2 ((hb12.block _ (blk_lt hR.out)).trans hR.out))
    | fail)
  all_goals
    go_wp2
    refine bodyPost_ret (v := .agg #[.string (U ++ V), .int .i64 1]) (by simp [results, Tryd.results16, go_sem, r0, r1]) rfl ⟨rfl, bl_two (bl_step hB.out hb12) _ _ (by omega)⟩

set_option maxHeartbeats 4000000 in
theorem shOr (a b c d : Nat) (X Y : Txt) (p q : Nat) (g o cap : Nat) (w : World) (hp : p ≤ 2) (hq : q ≤ 2) (hX : X.length ≤ 200000) (hY : Y.length ≤ 200000) (c0 : w.cell? ⟨g, o, none⟩ = some (.string (strT X))) (c1 : w.cell? ⟨g, o + 1, none⟩ = some (.int .i64 (p : Int))) (c2 : w.cell? ⟨g, o + 2, none⟩ = some (.string (strT Y))) (c3 : w.cell? ⟨g, o + 3, none⟩ = some (.int .i64 (q : Int))) :
    Calls Tryd.prog 16 #[celV 4 a b c d, .slice (some ⟨g, o, none⟩) 2 cap] w fun e w' => e = .returned (shV (strT (wi p 0 X ++ (124 :: wi q 1 Y))) 0) ∧ Below w.heap.size w w' := by
  have G1 := hid (fun u => withinC X p 0 u hp (by omega) hX)
  have G2 := hid (fun u => withinC Y q 1 u hq (by omega) hY)
  rw [show ((1 : Nat) : Int) = 1 from rfl] at G2
  rw [show ((0 : Nat) : Int) = 0 from rfl] at G1
  have hB := hid (shB0_below w 4 a b c d).drew
  have hR := hid (show (shB0 w 4 a b c d).drew.heap[w.heap.size + 1]? = some (.cells #[.string ⟨#[]⟩, .int .i64 0] 37 (0, 0)) from shB0_res w 4 a b c d)
  have e0 := keep_cell hB.out c0
  have e1 := keep_cell hB.out c1
  have e2 := keep_cell hB.out c2
  have e3 := keep_cell hB.out c3
  have hK := hid (fun u v (h : Below (shB0 w 4 a b c d).drew.heap.size (shB0 w 4 a b c d).drew u) (o : Nat) (hc : (shB0 w 4 a b c d).drew.cell? ⟨g, o, none⟩ = some v) => keep_cell h hc)
  have hl : (strT (wi p 0 X)).size ≤ 200002 := by rw [strT_size]; have := wi_len p 0 X; omega
  have hl2 : (strT (wi q 1 Y)).size ≤ 200002 := by rw [strT_size]; have := wi_len q 1 Y; omega
  have hsp : strT (wi p 0 X ++ (124 :: wi q 1 Y)) = strT (wi p 0 X) ++ ⟨#[124]⟩ ++ strT (wi q 1 Y) := by
    rw [show (⟨#[124]⟩ : ByteArray) = strT [124] from rfl, strT_app, strT_app]; simp
  rw [hsp]
  clear hsp
  generalize strT (wi p 0 X) = U at G1 hl ⊢
  generalize strT (wi q 1 Y) = V at G2 hl2 ⊢
  generalize strT X = X' at G1 c0 e0
  generalize strT Y = Y' at G2 c2 e2
  have h1 : (⟨#[124]⟩ : ByteArray).size = 1 := rfl
  have k1 := fun u => run_cat U ⟨#[124]⟩ u (by omega)
  have k2 := fun u => run_cat (U ++ ⟨#[124]⟩) V u (by rw [ByteArray.size_append]; omega)
  clear h1
  clear hX hY
  go_enter Tryd.func16, Tryd.ntmps16
  go_wp2_with fail
  go_region_with (first
    | (go_at_call_of 24 (Value.int .i64 0); refine (G1.out _).mono ?_; rintro e w1 ⟨rfl, hb1⟩; have x0 := hK.out w1 _ hb1 _ e0; have x1 := hK.out w1 _ hb1 _ e1; have x2 := hK.out w1 _ hb1 _ e2; have x3 := hK.out w1 _ hb1 _ e3)
    | (go_at_call_of 24 (Value.int .i64 1); refine (G2.out _).mono ?_; rintro e w2 ⟨rfl, hb2⟩; have hb12 := bl_step hb1 hb2; obtain ⟨r0, r1, r2, r3⟩ := res2 ((hb12.block _ (blk_lt hR.out)).trans hR.out))
    | fail)
  all_goals
    go_wp2
    refine bodyPost_ret (v := .agg #[.string (U ++ ⟨#[124]⟩ ++ V), .int .i64 0]) (by simp [results, Tryd.results16, go_sem, r0, r1]) rfl ⟨rfl, bl_two (bl_step hB.out hb12) _ _ (by omega)⟩

end Go.Proofs.YtjiljfmejgiabaaDoor
