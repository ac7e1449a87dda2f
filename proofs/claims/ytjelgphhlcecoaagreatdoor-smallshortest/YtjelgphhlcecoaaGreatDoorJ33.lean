/- The reader: a row, rows. The reader: read, which catches faults. Parse. The example: the automaton of "ab" and "a". -/
import Derived.Test.YtjelgphhlcecoaaGreatDoorJ32
import Derived.Test.YtjelgphhlcecoaaGreatDoorJ25
import Derived.Test.YtjelgphhlcecoaaGreatDoorJ14
import Derived.Defers
import Derived.Recover
namespace Go.Proofs.YtjelgphhlcecoaaGreatDoor
open Go.RowKit

set_option maxRecDepth 20000 in
theorem rowEndsR {w : World} {rb : Nat} {s q : Txt} {l : List Cel} (h : Rd w rb s q l) (hs : s.length ≤ 200) :
    Calls Tryz.prog 76 #[.pointer (some ⟨rb, 0, none⟩)] w fun e w' => e = .returned (.bool (rowEnd q)) ∧ Rd w' rb s q l ∧ Below rb w w' := by
  have hlt := h.lt
  have h' := h
  obtain ⟨v, h1, h2, h3⟩ := h
  exact (rowEndsC h1 hs).mono fun e w' hh => ⟨hh.1, h'.keep hh.2, low hlt hh.2⟩
theorem pieceP_lt {q r : Txt} {t : Rx} (h : pieceP q = some (t, r)) : r.length < q.length := by
  unfold pieceP at h
  cases e : atomP q with
  | none => rw [e] at h; cases h
  | some x =>
    obtain ⟨t', q'⟩ := x
    have h1 := atomP_lt e
    have h2 := stars_le q' t'
    rw [e] at h
    injection h with h
    rw [h] at h2
    simp at h2
    omega

set_option maxRecDepth 20000 in
set_option maxHeartbeats 4000000 in
theorem rowC {n : Nat} (H : RowsOK n) {w : World} {rb : Nat} {s q : Txt} {l : List Cel} {M : Nat} (h : Rd w rb s q l) (hs : s.length ≤ 200) (hn : q.length ≤ n) (hM : l.length + 2 * q.length ≤ M) (hM1 : M ≤ 1000) :
    Calls Tryz.prog 58 #[.pointer (some ⟨rb, 0, none⟩)] w (Red (rowP q) w rb s l M) := by
  have GA := hid (pieceC H h hs hn hM hM1)
  rw [rowP_piece]
  cases e1 : pieceP q with
  | none =>
    rw [e1] at GA
    show Calls _ _ _ _ (Red none w rb s l M)
    clear h e1
    go_enter Tryz.func58, Tryz.ntmps58
    go_wp2_with (go_at_call 75; refine GA.out.mono ?_; intro e w1 hw1; obtain ⟨⟨n1, he1, hn1⟩, hb1⟩ := hw1.no; subst he1)
    exact ⟨rfl, ⟨_, rfl, hn1⟩, hb1⟩
  | some x =>
    obtain ⟨t, r⟩ := x
    have hlt := pieceP_lt e1
    rw [e1] at GA
    show Calls _ _ _ _ (Red (moreP t r) w rb s l M)
    obtain ⟨R, hR⟩ : ∃ R, Hid (moreP t r = R) := ⟨_, hid rfl⟩
    rw [hR.out]
    clear h e1
    go_enter Tryz.func58, Tryz.ntmps58
    go_wp2_with (go_at_call 75; refine GA.out.mono ?_; intro e w1 hw1; obtain ⟨he1, hr1, hm1, hb1⟩ := hw1.yes; subst he1; have hr1 := hid hr1; have hm1 := hid hm1)
    go_loopw [] (fun wr => ∃ a q', Hid (Rd wr rb s q' (l ++ post a)) ∧ Hid (moreP a q' = R) ∧ Hid ((l ++ post a).length + 1 + 2 * q'.length ≤ M) ∧ q'.length ≤ n ∧ Below rb w wr) (fun wr => plcN wr rb s.length)
    case atStart => exact ⟨t, r, hr1, hR, hm1, by omega, hb1⟩
    case round =>
      obtain ⟨a, q', hrd, hst, hmm, hnq, hbw⟩ := hrel
      have hmu := hid hrd.out.left
      clear hR hr1 hm1 GA
      have GE := hid (rowEndsR hrd.out hs)
      have hst' := hst.out
      rw [moreP_piece] at hst'
      cases hre : rowEnd q' with
      | true =>
        rw [hre] at GE hst'
        have hst2 : Hid (R = some (a, q')) := hid (hst'.symm)
        clear hst' hre hst
        go_wp2_with (go_at_call 76; refine GE.out.mono ?_; rintro e w2 ⟨rfl, hr2, hb2⟩; have hr2 := hid hr2)
        first | go_end0 | refine bodyPost_ret (results_none rfl _ _ _) rfl ?_
        exact Red.mk_yes hst2.out hr2.out hmm.out (hbw.trans hb2)
      | false =>
        rw [hre] at GE hst'
        have hst1 : (match pieceP q' with
          | some (t, r) => moreP (.cat a t) r
          | none => none) = R := hst'
        have hmm' := hmm.out
        have GP := hid (fun u (hu : Rd u rb s q' (l ++ post a)) => pieceC H hu hs hnq (M := M - 1) (by omega) (by omega))
        clear hst' hre hst hmm'
        cases e2 : pieceP q' with
        | none =>
          rw [e2] at GP hst1
          have hst2 : Hid (R = none) := hid hst1.symm
          clear hst1 e2
          go_wp2_with (first
            | (go_at_call 76; refine GE.out.mono ?_; rintro e w2 ⟨rfl, hr2, hb2⟩; have hr2 := hid hr2)
            | (go_at_call 75; refine (GP.out _ hr2.out).mono ?_; intro e w3 hw3; obtain ⟨⟨n3, he3, hn3⟩, hb3⟩ := hw3.no; subst he3))
          exact ⟨rfl, Red.mk_no hst2.out hn3 ((hbw.trans hb2).trans hb3)⟩
        | some y =>
          obtain ⟨t2, r2⟩ := y
          have hlt2 := hid (pieceP_lt e2)
          rw [e2] at GP hst1
          have hst2 : Hid (moreP (.cat a t2) r2 = R) := hid hst1
          have G2 := hid (fun u (hu : Rd u rb s r2 ((l ++ post a) ++ post t2)) (hl : ((l ++ post a) ++ post t2).length ≤ 1000) => putC hu (by omega) 3 (by decide) (by decide))
          clear hst1 e2
          go_wp2_with (first
            | (go_at_call 76; refine GE.out.mono ?_; rintro e w2 ⟨rfl, hr2, hb2⟩; have hr2 := hid hr2)
            | (go_at_call 75; refine (GP.out _ hr2.out).mono ?_; intro e w3 hw3; obtain ⟨he3, hr3, hm3, hb3⟩ := hw3.yes; subst he3; have hr3 := hid hr3; have hm3' := hid (show (l ++ post a ++ post t2).length ≤ 1000 by omega); have hm3 := hid hm3)
            | (go_at_call 60; refine (G2.out _ hr3.out hm3'.out).mono ?_; rintro e w4 ⟨rfl, hr4, hb4⟩; have hr4 := hid hr4))
          have hr5 : Rd w4 rb s r2 (l ++ post (.cat a t2)) := by rw [show l ++ post (.cat a t2) = ((l ++ post a) ++ post t2) ++ [⟨3, noneB⟩] by simp [post]]; exact hr4.out
          go_roundw
          case rel =>
            have h1 := hm3.out
            have h2 := hlt2.out
            refine ⟨.cat a t2, r2, hid hr5, hst2, hid ?_, by omega, ((hbw.trans hb2).trans hb3).trans hb4⟩
            rw [show l ++ post (.cat a t2) = ((l ++ post a) ++ post t2) ++ [⟨3, noneB⟩] by simp [post], List.length_append]
            simp only [List.length_cons, List.length_nil]
            omega
          case measure =>
            rw [hmu.out, hr5.left]
            exact hlt2.out

set_option maxRecDepth 20000 in
set_option maxHeartbeats 4000000 in
theorem rowsN {n : Nat} (H : RowsOK n) {w : World} {rb : Nat} {s q : Txt} {l : List Cel} {M : Nat} (h : Rd w rb s q l) (hs : s.length ≤ 200) (hn : q.length ≤ n) (hM : l.length + 2 * q.length ≤ M) (hM1 : M ≤ 1000) :
    Calls Tryz.prog 47 #[.pointer (some ⟨rb, 0, none⟩)] w (Red (rowsP q) w rb s l M) := by
  have GA := hid (rowC H h hs hn hM hM1)
  rw [rowsP_eq]
  cases e1 : rowP q with
  | none =>
    rw [e1] at GA
    show Calls _ _ _ _ (Red none w rb s l M)
    clear h e1
    go_enter Tryz.func47, Tryz.ntmps47
    go_wp2_with (go_at_call 58; refine GA.out.mono ?_; intro e w1 hw1; obtain ⟨⟨n1, he1, hn1⟩, hb1⟩ := hw1.no; subst he1)
    exact ⟨rfl, ⟨_, rfl, hn1⟩, hb1⟩
  | some x =>
    obtain ⟨t, r⟩ := x
    have hlt := rowP_lt e1
    rw [e1] at GA
    show Calls _ _ _ _ (Red (orsP t r) w rb s l M)
    obtain ⟨R, hR⟩ : ∃ R, Hid (orsP t r = R) := ⟨_, hid rfl⟩
    rw [hR.out]
    clear h e1
    go_enter Tryz.func47, Tryz.ntmps47
    go_wp2_with (go_at_call 58; refine GA.out.mono ?_; intro e w1 hw1; obtain ⟨he1, hr1, hm1, hb1⟩ := hw1.yes; subst he1; have hr1 := hid hr1; have hm1 := hid hm1)
    go_loopw [] (fun wr => ∃ a q', Hid (Rd wr rb s q' (l ++ post a)) ∧ Hid (orsP a q' = R) ∧ Hid ((l ++ post a).length + 1 + 2 * q'.length ≤ M) ∧ q'.length ≤ n ∧ Below rb w wr) (fun wr => plcN wr rb s.length)
    case atStart => exact ⟨t, r, hr1, hR, hm1, by omega, hb1⟩
    case round =>
      obtain ⟨a, q', hrd, hst, hmm, hnq, hbw⟩ := hrel
      have hmu := hid hrd.out.left
      clear hR hr1 hm1 GA
      by_cases c1 : q'.head? = some 124
      · obtain ⟨q2, rfl⟩ := head_is c1
        have GE := hid (takeY hrd.out hs)
        rw [show ((124 : UInt8).toNat : Int) = 124 from rfl] at GE
        have hst' := hst.out
        rw [orsP_eq] at hst'
        have hst1 : (match rowP q2 with
          | some (t, q) => orsP (.or a t) q
          | none => none) = R := hst'
        have hmm' := hmm.out
        simp only [List.length_cons] at hmm' hnq
        have GP := hid (fun u (hu : Rd u rb s q2 (l ++ post a)) => rowC H hu hs (by omega) (M := M - 1) (by omega) (by omega))
        clear hst' hst c1 hmm'
        cases e2 : rowP q2 with
        | none =>
          rw [e2] at GP hst1
          have hst2 : Hid (R = none) := hid hst1.symm
          clear hst1 e2
          go_wp2_with (first
            | (go_at_call 59; refine GE.out.mono ?_; rintro e w2 ⟨rfl, hr2, hb2⟩; have hr2 := hid hr2)
            | (go_at_call 58; refine (GP.out _ hr2.out).mono ?_; intro e w3 hw3; obtain ⟨⟨n3, he3, hn3⟩, hb3⟩ := hw3.no; subst he3))
          exact ⟨rfl, Red.mk_no hst2.out hn3 ((hbw.trans hb2).trans hb3)⟩
        | some y =>
          obtain ⟨t2, r2⟩ := y
          have hlt2 := hid (rowP_lt e2)
          rw [e2] at GP hst1
          have hst2 : Hid (orsP (.or a t2) r2 = R) := hid hst1
          have G2 := hid (fun u (hu : Rd u rb s r2 ((l ++ post a) ++ post t2)) (hl : ((l ++ post a) ++ post t2).length ≤ 1000) => putC hu (by omega) 4 (by decide) (by decide))
          clear hst1 e2
          go_wp2_with (first
            | (go_at_call 59; refine GE.out.mono ?_; rintro e w2 ⟨rfl, hr2, hb2⟩; have hr2 := hid hr2)
            | (go_at_call 58; refine (GP.out _ hr2.out).mono ?_; intro e w3 hw3; obtain ⟨he3, hr3, hm3, hb3⟩ := hw3.yes; subst he3; have hr3 := hid hr3; have hm3' := hid (show (l ++ post a ++ post t2).length ≤ 1000 by omega); have hm3 := hid hm3)
            | (go_at_call 60; refine (G2.out _ hr3.out hm3'.out).mono ?_; rintro e w4 ⟨rfl, hr4, hb4⟩; have hr4 := hid hr4))
          have hr5 : Rd w4 rb s r2 (l ++ post (.or a t2)) := by rw [show l ++ post (.or a t2) = ((l ++ post a) ++ post t2) ++ [⟨4, noneB⟩] by simp [post]]; exact hr4.out
          go_roundw
          case rel =>
            have h1 := hm3.out
            have h2 := hlt2.out
            refine ⟨.or a t2, r2, hid hr5, hst2, hid ?_, by omega, ((hbw.trans hb2).trans hb3).trans hb4⟩
            rw [show l ++ post (.or a t2) = ((l ++ post a) ++ post t2) ++ [⟨4, noneB⟩] by simp [post], List.length_append]
            simp only [List.length_cons, List.length_nil]
            omega
          case measure =>
            have h2 := hlt2.out
            rw [hmu.out, hr5.left]
            simp only [List.length_cons]
            omega
      · have hno : (q'.head? == some 124) = false := by simpa using c1
        have GE := hid (takeN hrd.out hs 124 hno)
        rw [show ((124 : UInt8).toNat : Int) = 124 from rfl] at GE
        have hst' := hst.out
        rw [orsP_eq, hno] at hst'
        have hst2 : Hid (R = some (a, q')) := hid hst'.symm
        clear hst' hst c1 hno
        go_wp2_with (go_at_call 59; refine GE.out.mono ?_; rintro e w2 ⟨rfl, hr2, hb2⟩; have hr2 := hid hr2)
        first | go_end0 | refine bodyPost_ret (results_none rfl _ _ _) rfl ?_
        exact Red.mk_yes hst2.out hr2.out hmm.out (hbw.trans hb2)

theorem rowsOK : ∀ n, RowsOK n
  | 0 => fun _ _ _ _ _ _ _ _ h _ _ => absurd h (Nat.not_lt_zero _)
  | n + 1 => fun _ _ _ _ _ _ h hs hn hM hM1 => rowsN (rowsOK n) h hs (Nat.le_of_lt_succ hn) hM hM1
set_option maxRecDepth 20000 in
theorem rowsC {w : World} {rb : Nat} {s q : Txt} {l : List Cel} {M : Nat} (h : Rd w rb s q l) (hs : s.length ≤ 200) (hM : l.length + 2 * q.length ≤ M) (hM1 : M ≤ 1000) :
    Calls Tryz.prog 47 #[.pointer (some ⟨rb, 0, none⟩)] w (Red (rowsP q) w rb s l M) := rowsOK (q.length + 1) w rb s q l M h hs (Nat.lt_succ_self _) hM hM1

end Go.Proofs.YtjelgphhlcecoaaGreatDoor
namespace Go.Proofs.YtjelgphhlcecoaaGreatDoor
open Go.RowKit

set_option maxRecDepth 20000 in
theorem catch_idle (p q r : Addr) (w : World) :
    CallsD Tryz.prog 46 #[.pointer (some p), .pointer (some q), .pointer (some r)] .returning w fun e u' w' => e = .returned (.tuple #[]) ∧ u' = .returning ∧ w' = w := by
  refine callsD_of_wpS Tryz.func46 rfl fun c₀ cs hu => ?_
  apply wpS_seq
  apply wpS_region
  simp [wpOpsS, go_sem, recoverD, hu, Tryz.ntmps46, Exit.thenS]
  refine wpS_of_wp ?_
  rw [show (#[Value.pointer (some p), .pointer (some q), .pointer (some r)] ++ ((Array.replicate 6 undef).setIfInBounds 1 Value.nilIface).setIfInBounds 0 Value.nilIface) = #[Value.pointer (some p), .pointer (some q), .pointer (some r), .nilIface, .nilIface, undef, undef, undef, undef] from rfl]
  go_wp2
  refine ⟨rfl, .returning, ?_, .tuple #[], by simp [results, Tryz.results46], rfl, rfl, rfl⟩
  cases c₀
  simp_all

/-- the world in which the rows are read -/
def readW (w : World) (s : Txt) : World := (((w.alloc (.cells #[.slice none 0 0] 63)).alloc (.cells #[.int .i64 0] 3)).alloc (.cells #[.int .i64 0] 28)).alloc (.cells #[.string (strT s), .int .i64 0, .slice none 0 0] 89)
theorem readW_below (w : World) (s : Txt) : Below w.heap.size w (readW w s) := bl_step (bl_step (bl_step (al' w _) (al' _ _)) (al' _ _)) (al' _ _)
theorem readW_rd (w : World) (s : Txt) : Rd (readW w s) (w.heap.size + 3) s s [] := by
  obtain ⟨h0, h1, h2, h3⟩ := four_blocks w (.cells #[.slice none 0 0] 63) (.cells #[.int .i64 0] 3) (.cells #[.int .i64 0] 28) (.cells #[.string (strT s), .int .i64 0, .slice none 0 0] 89)
  exact ⟨.slice none 0 0, ⟨[], rfl, h3⟩, World.ownsRow_nil _ _ _ _, fun c hc => by cases hc⟩

end Go.Proofs.YtjelgphhlcecoaaGreatDoor
namespace Go.Proofs.YtjelgphhlcecoaaGreatDoor
open Go.RowKit

end Go.Proofs.YtjelgphhlcecoaaGreatDoor
namespace Go.Proofs.YtjelgphhlcecoaaGreatDoor
open Go.RowKit

/-- what a built automaton accepts -/
theorem rgtA_built {ts : List Rx} {all : List Sp} (R : RuS ts all) {n : Nat} (h : BldTo all n) : RgtA (nxtK all n) (accK all n) := by
  have H := nxtK_right R h.fin h.on h.pos
  have hl : (nxtK all n).length = n := nxtK_len all n
  have hl' : (accK all n).length = n := accK_len all n
  refine ⟨fun j hj => ?_, by rw [hl]; exact h.pos, by rw [hl]; exact h.le, by rw [hl, hl'], fun j hj => (H j (by rw [← hl']; exact hj)).2.1⟩
  rw [hl] at hj ⊢
  exact ⟨(H j hj).1, (H j hj).2.2⟩
theorem rowK_dead {all : List Sp} {st : St} {S : List St} : ∀ b, (∀ c, c < b → byS all st c = []) → (rowK all st S b).1 = S
  | 0, _ => rfl
  | b + 1, h => by rw [rowK_met1, h b (by omega), metS_nil, rowK_dead b fun c hc => h c (by omega)]
end Go.Proofs.YtjelgphhlcecoaaGreatDoor
