/- == and != on sets of bytes. Right of package regex. spots.Of: of what is no right rule; facts for the rest. -/
import Derived.Test.YtjelgphhlcecoaaGreatDoorJ2
import Derived.Test.YtjelgphhlcecoaaGreatDoorJ3
import Derived.Test.YtjelgphhlcecoaaGreatDoorJ8
import Derived.Test.YtjelgphhlcecoaaGreatDoorJ19
import Derived.Deep.AppendLies
import Derived.Maps.AppendAt
namespace Go.Proofs.YtjelgphhlcecoaaGreatDoor
open Go.RowKit

set_option maxRecDepth 20000 in
theorem eql4 (S T : W4) (w : World) : (binOp .eql 97 (valB S) (valB T)).run Tryz.prog w = .ok (.bool (decide (S = T))) w := by
  obtain ⟨a, b, c, d⟩ := S
  obtain ⟨a', b', c', d'⟩ := T
  rw [run_eql_struct, equal4 9998]
  rfl
set_option maxRecDepth 20000 in
theorem neq4 (S T : W4) (w : World) : (binOp .neq 97 (valB S) (valB T)).run Tryz.prog w = .ok (.bool (!decide (S = T))) w := by
  obtain ⟨a, b, c, d⟩ := S
  obtain ⟨a', b', c', d'⟩ := T
  rw [run_neq_struct, equal4 9998]
  rfl


end Go.Proofs.YtjelgphhlcecoaaGreatDoor
namespace Go.Proofs.YtjelgphhlcecoaaGreatDoor
open Go.RowKit

set_option maxRecDepth 20000 in
theorem operandsC (op : Int) (w : World) : Calls Tryz.prog 78 #[.int .i64 op] w fun e w' => e = .returned (.int .i64 (wants op)) ∧ w' = w := by
  by_cases h1 : op = 1
  · subst h1; rw [show wants 1 = 0 by decide]; go_enter Tryz.func78, Tryz.ntmps78; go_wp2; go_ret; exact ⟨rfl, rfl⟩
  by_cases h2 : op = 2
  · subst h2; rw [show wants 2 = 0 by decide]; go_enter Tryz.func78, Tryz.ntmps78; go_wp2; go_ret; exact ⟨rfl, rfl⟩
  by_cases h3 : op = 3
  · subst h3; rw [show wants 3 = 2 by decide]; go_enter Tryz.func78, Tryz.ntmps78; go_wp2; go_ret; exact ⟨rfl, rfl⟩
  by_cases h4 : op = 4
  · subst h4; rw [show wants 4 = 2 by decide]; go_enter Tryz.func78, Tryz.ntmps78; go_wp2; go_ret; exact ⟨rfl, rfl⟩
  by_cases h5 : op = 5
  · subst h5; rw [show wants 5 = 1 by decide]; go_enter Tryz.func78, Tryz.ntmps78; go_wp2; go_ret; exact ⟨rfl, rfl⟩
  by_cases h6 : op = 6
  · subst h6; rw [show wants 6 = 1 by decide]; go_enter Tryz.func78, Tryz.ntmps78; go_wp2; go_ret; exact ⟨rfl, rfl⟩
  by_cases h7 : op = 7
  · subst h7; rw [show wants 7 = 1 by decide]; go_enter Tryz.func78, Tryz.ntmps78; go_wp2; go_ret; exact ⟨rfl, rfl⟩
  have c1 : (op == 1) = false := beq_eq_false_iff_ne.2 h1
  have c2 : (op == 2) = false := beq_eq_false_iff_ne.2 h2
  have c3 : (op == 3) = false := beq_eq_false_iff_ne.2 h3
  have c4 : (op == 4) = false := beq_eq_false_iff_ne.2 h4
  have c5 : (op == 5) = false := beq_eq_false_iff_ne.2 h5
  have c6 : (op == 6) = false := beq_eq_false_iff_ne.2 h6
  have c7 : (op == 7) = false := beq_eq_false_iff_ne.2 h7
  have e : wants op = -1 := by unfold wants; rw [if_neg (by omega), if_neg (by omega), if_neg (by omega)]
  rw [e]
  clear h1 h2 h3 h4 h5 h6 h7
  go_enter Tryz.func78, Tryz.ntmps78; go_wp2; go_ret; exact ⟨rfl, rfl⟩

/-- a cell as a value -/
abbrev celV (op : Int) (a b c d : Nat) : Value := .agg #[.int .i64 op, .int .u64 (a : Int), .int .u64 (b : Int), .int .u64 (c : Int), .int .u64 (d : Int)]
theorem cells5 {w : World} {b : Nat} {x0 x1 x2 x3 x4 : Value} {T : TypeId} (h : w.heap[b]? = some (.cells #[x0, x1, x2, x3, x4] T (0, 0))) :
    w.cell? ⟨b, 0, none⟩ = some x0 ∧ w.cell? ⟨b, 1, none⟩ = some x1 ∧ w.cell? ⟨b, 2, none⟩ = some x2 ∧ w.cell? ⟨b, 3, none⟩ = some x3 ∧ w.cell? ⟨b, 4, none⟩ = some x4 := ⟨blk_cell h rfl, blk_cell h rfl, blk_cell h rfl, blk_cell h rfl, blk_cell h rfl⟩

set_option maxRecDepth 20000 in
set_option maxHeartbeats 1000000 in
theorem rightSetC (op : Int) (a b c d : Nat) (w : World) : Calls Tryz.prog 79 #[celV op a b c d] w fun e w' => e = .returned (.bool (!(decide ((⟨a, b, c, d⟩ : W4) = noneB) == (op == 1)))) ∧ Below w.heap.size w w' := by
  have he : ∀ u, (Op.equalIn 10000 97 (.agg #[.int .u64 (a : Int), .int .u64 (b : Int), .int .u64 (c : Int), .int .u64 (d : Int)]) (.agg #[.int .u64 0, .int .u64 0, .int .u64 0, .int .u64 0])).run Tryz.prog u = .ok (decide ((⟨a, b, c, d⟩ : W4) = noneB)) u := fun u => equal4 9998 a b c d 0 0 0 0 u
  generalize decide ((⟨a, b, c, d⟩ : W4) = noneB) = E at he ⊢
  have hb : ∀ x y : Bool, ∀ u, (binOp .eql 4 (.bool x) (.bool y)).run Tryz.prog u = .ok (.bool (x == y)) u := fun x y u => by cases x <;> cases y <;> kernel_rfl
  go_enter Tryz.func79, Tryz.ntmps79
  go_wp2_with fail
  go_quiet (fail)
  go_wp2
  go_ret
  refine ⟨?_, ?_⟩
  · cases E <;> cases (op == 1) <;> rfl
  · exact (al' w _).trans ⟨rfl, rfl, rfl, Nat.le_refl _, fun _ _ => rfl⟩

set_option maxRecDepth 20000 in
set_option maxHeartbeats 4000000 in
theorem rightP (v : Value) (l : List Cel) (w : World) (hA : Cels w v l) : Calls Tryz.prog 61 #[v] w fun e w' => e = .returned (.bool (rightB l)) ∧ Below w.heap.size w w' := by
  obtain ⟨av, cv, rfl, _, _, hFl, hAt⟩ := hA
  have hAt := hid hAt
  by_cases h60 : 60 < l.length
  · have e : rightB l = false := by unfold rightB; rw [decide_eq_false (by omega : ¬ l.length ≤ 60)]; simp
    rw [e]
    have h60z : (60 : Int) < (l.length : Int) := by omega
    go_enter Tryz.func61, Tryz.ntmps61; go_wp2; go_ret; exact ⟨rfl, Below.refl _ _⟩
  have h60z : ¬ (60 : Int) < (l.length : Int) := by omega
  have hend := hid (fun (h : 1 ≤ l.length) d => @right_end l h (by omega) d)
  have hnil : Hid (l.length = 0 → rightB l = false) := hid (fun h => by unfold rightB; rw [decide_eq_false (by omega : ¬ 1 ≤ l.length)]; rfl)
  have hbad := hid (fun k (hk : k ≤ l.length) (h : depthN l k = none) => right_bad (depth_none l h l.length hk))
  have hsucc := hid (fun k d => @depth_succ l k d)
  have GW := hid operandsC
  have GS := hid rightSetC
  generalize rightB l = R at hend hbad hnil ⊢
  go_enter Tryz.func61, Tryz.ntmps61
  go_wp2
  go_loopw [3, 12] (fun d i wr => ∃ (k : Nat) (z : Int), k ≤ l.length ∧ i = .int .i64 k ∧ d = .int .i64 z ∧ Hid (depthN l k = some z) ∧ 0 ≤ z ∧ z ≤ k ∧ Below w.heap.size w wr) (fun _ i _ => l.length - (intOf i).toNat)
  case atStart => exact ⟨0, 0, Nat.zero_le _, rfl, rfl, hid rfl, Int.le_refl _, by omega, Below.refl _ _⟩
  case round =>
    obtain ⟨k, z, hk, rfl, rfl, hdep, hz0, hzk, hbl⟩ := hrel
    by_cases hlt : k < l.length
    · have hltz : (k : Int) < (l.length : Int) := by omega
      obtain ⟨b', o', rfl, hb', hat0⟩ := hAt.out k hlt
      have hat := hat0.keep hbl
      clear hat0
      have hs := hid (hsucc.out k z hdep.out hlt)
      have hbk := hid (hbad.out (k + 1) (by omega))
      generalize l[k] = c at hat hs
      obtain ⟨op, S⟩ := c
      obtain ⟨sa, sb, sc, sd⟩ := S
      obtain ⟨d0, d1, d2, d3, d4⟩ := hat
      simp only at d0 d1 d2 d3 d4
      have GW0 := hid (fun u => GW.out op u)
      have GS0 := hid (fun u => GS.out op sa sb sc sd u)
      have hwl := wants_le op
      have hbb := hid (al' wr (.cells #[.int .i64 op, .int .u64 (sa : Int), .int .u64 (sb : Int), .int .u64 (sc : Int), .int .u64 (sd : Int)] 115))
      unfold badC at hs
      simp only at hs
      generalize wants op = q at GW0 hs hwl
      have hop : decide (op = 1) = (op == 1) := by rw [Bool.eq_iff_iff]; simp
      rw [hop] at hs
      clear hop
      generalize (decide ((⟨sa, sb, sc, sd⟩ : W4) = noneB) == (op == 1)) = E at GS0 hs
      by_cases hq : q < 0
      · have hR : R = false := hbk.out (by rw [hs.out, decide_eq_true hq]; rfl)
        subst hR
        go_wp2_with (go_at_call 78; refine (GW0.out _).mono ?_; rintro e u1 ⟨rfl, hu⟩; subst u1)
        go_ret
        exact ⟨rfl, bl_step hbl hbb.out⟩
      · by_cases hd : z < q
        · have hR : R = false := hbk.out (by rw [hs.out, decide_eq_true hd, Bool.or_true]; rfl)
          subst hR
          go_wp2_with (go_at_call 78; refine (GW0.out _).mono ?_; rintro e u1 ⟨rfl, hu⟩; subst u1)
          go_ret
          exact ⟨rfl, bl_step hbl hbb.out⟩
        · rw [decide_eq_false hq, decide_eq_false hd, Bool.false_or, Bool.false_or] at hs
          cases E with
          | true =>
            have hR : R = false := hbk.out (by rw [hs.out]; rfl)
            subst hR
            clear hs
            go_wp2_with (first
              | (go_at_call 78; refine (GW0.out _).mono ?_; rintro e u1 ⟨rfl, hu⟩; subst u1)
              | (go_at_call 79; refine (GS0.out _).mono ?_; rintro e w1 ⟨rfl, hb1⟩))
            go_ret
            exact ⟨rfl, bl_step (bl_step hbl hbb.out) hb1⟩
          | false =>
            rw [if_neg Bool.false_ne_true] at hs
            go_wp2_with (first
              | (go_at_call 78; refine (GW0.out _).mono ?_; rintro e u1 ⟨rfl, hu⟩; subst u1)
              | (go_at_call 79; refine (GS0.out _).mono ?_; rintro e w1 ⟨rfl, hb1⟩))
            go_roundw
            case rel => exact ⟨k + 1, z - q + 1, by omega, by go_num, by go_num, hs, by omega, by omega, bl_step (bl_step hbl hbb.out) hb1⟩
            case measure => simp [intOf]; omega
    · have hltz : ¬ (k : Int) < (l.length : Int) := by omega
      have e : k = l.length := by omega
      subst e
      by_cases hl0 : l.length = 0
      · have hR := hnil.out hl0
        have hz : z = 0 := by omega
        subst hz
        subst hR
        go_wp2
        go_ret
        exact ⟨rfl, hbl⟩
      · have hR := hend.out (by omega) z hdep.out
        clear hl0
        go_wp2
        go_ret
        exact ⟨by first | rfl | rw [hR], hbl⟩

end Go.Proofs.YtjelgphhlcecoaaGreatDoor
namespace Go.Proofs.YtjelgphhlcecoaaGreatDoor
open Go.RowKit

set_option maxRecDepth 20000 in
theorem Tryz.infoP : (Tryz.prog.info? 117).map (fun i => (i.zero, i.size, i.bytes)) = some (some (.agg #[.bool false, .slice none 0 0, .slice none 0 0]), 3, 56) := by kernel_rfl
set_option maxRecDepth 20000 in
theorem Tryz.infoS4 : (Tryz.prog.info? 97).map (fun i => (i.zero, i.size, i.bytes)) = some (some (.agg #[.int .u64 0, .int .u64 0, .int .u64 0, .int .u64 0]), 4, 32) := by kernel_rfl
set_option maxRecDepth 20000 in
theorem Tryz.infoN : (Tryz.prog.info? 23).map (fun i => (i.zero, i.size, i.bytes)) = some (some (.slice none 0 0), 1, 24) := by kernel_rfl
set_option maxRecDepth 20000 in
theorem Tryz.sizeP (u : World) : (sizeOf 117).run Tryz.prog u = .ok 3 u := by kernel_rfl
set_option maxRecDepth 20000 in
theorem Tryz.elemP : Tryz.prog.elem 113 = 117 := by kernel_rfl
set_option maxRecDepth 20000 in
theorem cutP_hi (g n cap r : Nat) (h : r ≤ cap) (u : World) : (Instr.slice 113 (.slice (some ⟨g, 0, none⟩) n cap) none (some (.int .i64 (r : Int))) none).run Tryz.prog u = .ok (.slice (some ⟨g, 0, none⟩) r cap) u := by
  rw [run_slice_h u 113 _ _ _ Tryz.underlying113 .i64 _ (by omega) (by omega), Tryz.elemP, Tryz.sizeP]
  simp [sliced, Addr.add]

theorem nS_step {st : List Rx} {c : Cel} (h0 : 0 ≤ wants c.op) (h1 : wants c.op ≤ (st.length : Int)) : nS (stepS st c) ≤ nS st + 1 := by
  obtain ⟨op, S⟩ := c
  simp only at h0 h1 ⊢
  rcases wants_cases op h0 with ⟨rfl, hw⟩ | ⟨rfl, hw⟩ | ⟨rfl, hw⟩ | ⟨rfl, hw⟩ | ⟨rfl, hw⟩ | ⟨rfl, hw⟩ | ⟨rfl, hw⟩
  · simp [stepS, nS, nSets]
  · simp [stepS, nS, nSets]
  · rw [hw] at h1
    match st, h1 with
    | b :: a :: r, _ => simp [stepS, nS, nSets]; omega
    | [_], h => simp at h
    | [], h => simp at h
  · rw [hw] at h1
    match st, h1 with
    | b :: a :: r, _ => simp [stepS, nS, nSets]; omega
    | [_], h => simp at h
    | [], h => simp at h
  · rw [hw] at h1
    match st, h1 with
    | a :: r, _ => simp [stepS, nS, nSets]
    | [], h => simp at h
  · rw [hw] at h1
    match st, h1 with
    | a :: r, _ => simp [stepS, nS, nSets]
    | [], h => simp at h
  · rw [hw] at h1
    match st, h1 with
    | a :: r, _ => simp [stepS, nS, nSets]
    | [], h => simp at h
theorem len_step {st : List Rx} {c : Cel} (h0 : 0 ≤ wants c.op) (h1 : wants c.op ≤ (st.length : Int)) : (stepS st c).length ≤ st.length + 1 := by
  have := stepS_len h0 h1
  omega
theorem nS_stK {l : List Cel} (hr : rightB l = true) : ∀ k, k ≤ l.length → nS (stK l k) ≤ k ∧ (stK l k).length ≤ k
  | 0, _ => ⟨Nat.le_refl _, Nat.le_refl _⟩
  | k + 1, hk => by
    have ih := nS_stK hr k (by omega)
    have hw := stK_wants hr k (by omega)
    rw [stK_succ l k (by omega)]
    have h1 := nS_step (c := l[k]) hw.1 hw.2
    have h2 := len_step (c := l[k]) hw.1 hw.2
    omega
theorem firstL_in (t : Rx) (n m : Nat) (h : n + nSets t ≤ m) : InN (firstL t n) m := fun x hx => by
  obtain ⟨k, rfl, hk⟩ := (firstL_mem t n x).1 hx
  have := fst_in t n k hk
  omega
theorem lastL_in (t : Rx) (n m : Nat) (h : n + nSets t ≤ m) : InN (lastL t n) m := fun x hx => by
  obtain ⟨k, rfl, hk⟩ := (lastL_mem t n x).1 hx
  have := lst_in t n k hk
  omega
theorem lastL_cat (a b : Rx) (n : Nat) : lastL (.cat a b) n = if b.null then unionL (lastL a n) (lastL b (n + nSets a)) else lastL b (n + nSets a) := by
  rw [lastL, unionL_comm]
theorem firstL_cat (a b : Rx) (n : Nat) : firstL (.cat a b) n = if a.null then unionL (firstL a n) (firstL b (n + nSets a)) else firstL a n := rfl
theorem cells5s {w : World} {b : Nat} {x0 x1 x2 x3 x4 : Value} {T : TypeId} (h : w.heap[b]? = some (.cells #[x0, x1, x2, x3, x4] T (0, 0))) :
    w.cell? ⟨b, 0, none⟩ = some x0 ∧ w.cell? ⟨b, 1, none⟩ = some x1 ∧ w.cell? ⟨b, 2, none⟩ = some x2 ∧ w.cell? ⟨b, 3, none⟩ = some x3 ∧ w.cell? ⟨b, 4, none⟩ = some x4 ∧ w.frozen? ⟨b, 0, none⟩ = false ∧ w.frozen? ⟨b, 1, none⟩ = false ∧ w.frozen? ⟨b, 2, none⟩ = false ∧ w.frozen? ⟨b, 3, none⟩ = false ∧ w.frozen? ⟨b, 4, none⟩ = false :=
  ⟨blk_cell h rfl, blk_cell h rfl, blk_cell h rfl, blk_cell h rfl, blk_cell h rfl, blk_frozen h 0, blk_frozen h 1, blk_frozen h 2, blk_frozen h 3, blk_frozen h 4⟩
theorem OfM.start (u : World) (x : Nat) (hx : x < u.heap.size) : OfM u.heap.size u.heap.size (fun k => k = u.heap.size ∨ k ≤ x) 0 (u.alloc (.cells #[nilV, .bool false, nilV, nilV, nilV] 91)) nilV nilV nilV [] [] [] [] [] where
  lk := ⟨by simp, fun k e => (by rw [size_al]; rcases e with e | e <;> omega), fun k e => (by cases e), Or.inl rfl, blk_cell (heap_new u (.cells #[nilV, .bool false, nilV, nilV, nilV] 91)) (by rfl), World.ownsRow_nil _ _ _ _, NumsF.nil _ _, rfl, (by omega), fun j => ⟨List.Pairwise.nil, fun x hx => (by simp at hx)⟩⟩
  blk := heap_new u _
  sets := World.ownsRow_nil _ _ _ _
  sF := fun k e => by cases e
  own := World.ownsRow_nil _ _ _ _
  oF := fun k e => by cases e
  pts := rfl
/-- all blocks up to n are among those that change -/
def LowF (n : Nat) (F : Nat → Prop) : Prop := ∀ k, k ≤ n → F k
theorem LowF.up {n : Nat} {F G : Nat → Prop} (h : LowF n F) (hG : ∀ k, F k → G k) : LowF n G := fun k hk => hG k (h k hk)
/-- spots in memory that lie in none of the blocks F -/
structure SpVF (F : Nat → Prop) (w : World) (sv fv lv gv : Value) (p : Sp) : Prop where
  spv : SpV w sv fv lv gv p
  os : Off F sv
  of : Off F fv
  ol : Off F lv
  og : Off F gv
  oin : ∀ b o n c, gv = .slice (some ⟨b, o, none⟩) n c → ∀ j x, j < p.follow.length → w.cell? ⟨b, o + j, none⟩ = some x → Off F x
theorem off_row {F : Nat → Prop} {w : World} {B n size : Nat} {e : TypeId} {v : Value} {xs : List Value} (h : w.ownsRow B e size v n xs) (hF : ∀ k, F k → k < B) : Off F v := fun ad n c e hn hf => by
  rcases h.2 with ⟨rfl, _⟩ | ⟨g, cap, cur, rfl, hb, _⟩
  · cases e
  · injection e with e1
    cases e1
    have : g < B := hF _ hf
    omega
theorem Off.low {n : Nat} {F : Nat → Prop} {v : Value} (h : Off F v) (hl : LowF n F) : Off (fun k => k < n) v := fun ad m c e h0 hg => h ad m c e h0 (hl _ (Nat.le_of_lt hg))
theorem oin_of {F : Nat → Prop} {m : Nat} {w : World} {B : Nat} {v : Value} {vs : List Value} {ls : List (List Int)} (h : w.ownsRow B 23 1 v vs.length vs) (hn : NumsF F w vs ls) (hl : LowF m F) : ∀ b o n c, v = .slice (some ⟨b, o, none⟩) n c → ∀ j x, j < ls.length → w.cell? ⟨b, o + j, none⟩ = some x → Off (fun k => k < m) x := by
  intro b o n c e j x hj hx
  have h' := h
  have hll := hn.1
  rcases h.2 with ⟨rfl, h0⟩ | ⟨g, cap, cur, rfl, _⟩
  · cases e
  · injection e with e1
    cases e1
    have h2 := h'.cellAt j (by omega)
    rw [Nat.zero_add, h2, List.getElem?_eq_getElem (by omega)] at hx
    have h3 := (hn.2 j).2
    rw [List.getD_eq_getElem?_getD, List.getElem?_eq_getElem (by omega)] at h3
    injection hx with hx
    rw [← hx]
    exact h3.low hl
theorem spvf_mk {F : Nat → Prop} {m pb : Nat} {w : World} {sv fv lv gv : Value} {S : List W4} {nu : Bool} {f l : List Int} {gs : List Value} {fl : List (List Int)} (hs : OwnS w pb sv S) (hfit : ∀ X ∈ S, Fit4 X) (hf : Nums w fv f) (of : Off F fv) (hl : Nums w lv l) (ol : Off F lv) (hg : w.ownsRow pb 23 1 gv gs.length gs) (hn : NumsF F w gs fl) (hX : LowF m F) (hm : m ≤ pb) : SpVF (fun k => k < m) w sv fv lv gv ⟨S, nu, f, l, fl⟩ :=
  ⟨⟨Sets.of_own hs hfit, hf, hl, numss_of (F := F) hg hn⟩, off_row hs (fun _ h => Nat.lt_of_lt_of_le h hm), of.low hX, ol.low hX, off_row hg (fun _ h => Nat.lt_of_lt_of_le h hm), oin_of (F := F) hg hn hX⟩
theorem folOK_start : FolOK (FolS []) (nS []) [] := ⟨rfl, fun _ hj => absurd hj (Nat.not_lt_zero _), fun _ _ hj => absurd hj (Nat.not_lt_zero _)⟩

def put5 (w : World) (b : Nat) (y0 y1 y2 y3 y4 : Value) : World := ((((w.setCell ⟨b, 0, none⟩ y0).setCell ⟨b, 1, none⟩ y1).setCell ⟨b, 2, none⟩ y2).setCell ⟨b, 3, none⟩ y3).setCell ⟨b, 4, none⟩ y4
theorem put5_blk {w : World} {b : Nat} {x0 x1 x2 x3 x4 y0 y1 y2 y3 y4 : Value} {T : TypeId} {fr : Nat × Nat} (h : w.heap[b]? = some (.cells #[x0, x1, x2, x3, x4] T fr)) : (put5 w b y0 y1 y2 y3 y4).heap[b]? = some (.cells #[y0, y1, y2, y3, y4] T fr) := heap_setCell (heap_setCell (heap_setCell (heap_setCell (heap_setCell h))))
theorem put5_kept {F : Nat → Prop} {w u : World} {b : Nat} {y0 y1 y2 y3 y4 : Value} (h : Kept F w u) (hb : F b) : Kept F w (put5 u b y0 y1 y2 y3 y4) := ((((h.setCell fun _ => hb).setCell fun _ => hb).setCell fun _ => hb).setCell fun _ => hb).setCell fun _ => hb
set_option maxRecDepth 20000 in
theorem sofBad (v : Value) (l : List Cel) (w : World) (hA : Cels w v l) (hr : rightB l = false) :
    Calls Tryz.prog 48 #[v] w fun e w' => e = .returned (.tuple #[.agg #[nilV, .bool false, nilV, nilV, nilV], .int .i64 1]) ∧ Below w.heap.size w w' := by
  have hb0 := al' w (.cells #[nilV, .bool false, nilV, nilV, nilV] 91)
  have G := hid (rightP v l _ (hA.keep hb0))
  have hq := heap_new w (.cells #[nilV, .bool false, nilV, nilV, nilV] 91)
  have hb0 := hid hb0
  rw [hr] at G
  obtain ⟨av, cv, rfl, _⟩ := hA
  go_enter Tryz.func48, Tryz.ntmps48
  go_wp2_with (go_at_call 61; refine G.out.mono ?_; rintro e w1 ⟨rfl, hb1⟩; have hq1 := hs_keep hq hb1; obtain ⟨c0, c1, c2, c3, c4, f0, f1, f2, f3, f4⟩ := cells5s hq1)
  have hfb : (put5 w1 w.heap.size nilV (.bool false) nilV nilV nilV).heap[w.heap.size]? = some (.cells #[nilV, .bool false, nilV, nilV, nilV] 91) := put5_blk hq1
  obtain ⟨r0, r1, r2, r3, r4, -⟩ := cells5s hfb
  unfold put5 at r0 r1 r2 r3 r4
  have hk : Kept (oneBlk w.heap.size) w (put5 w1 w.heap.size nilV (.bool false) nilV nilV nilV) := put5_kept (Kept.of_below (bl_step hb0.out hb1)) rfl
  exact bodyPost_ret (v := .tuple #[.agg #[nilV, .bool false, nilV, nilV, nilV], .int .i64 1]) (by simp [results, Tryz.results48, go_sem, r0, r1, r2, r3, r4]) rfl ⟨rfl, hk.below (fun k e => Nat.le_of_eq (show k = w.heap.size from e).symm) (Nat.le_refl _)⟩

end Go.Proofs.YtjelgphhlcecoaaGreatDoor
