/- The reader: pieces, rows. The reader: a row, rows. -/
import Derived.Test.YtgbecehggdkkmaaJ42
namespace Go.Proofs.Ytgbecehggdkkmaa
open Go.RowKit

def pieceP (q : Txt) : Option (Rx × Txt) := match atomP q with
  | some (t, r) => some (starsF t r)
  | none => none
theorem rowP_piece (q : Txt) : rowP q = match pieceP q with
    | some (t, r) => moreP t r
    | none => none := by
  rw [rowP_eq]
  unfold pieceP
  cases atomP q with
  | none => rfl
  | some x => rfl
theorem moreP_piece (a : Rx) (q : Txt) : moreP a q = if rowEnd q then some (a, q) else match pieceP q with
    | some (t, r) => moreP (.cat a t) r
    | none => none := by
  rw [moreP_eq]
  unfold pieceP
  cases atomP q with
  | none => rfl
  | some x => rfl
theorem Red.mk_no {res : Option (Rx × Txt)} {w w' : World} {rb : Nat} {s : Txt} {l : List Cel} {M : Nat} (h : res = none) {n : Int} (hn : s = [40, 97] → n = 2) (hb : Below rb w w') : Red res w rb s l M (faultE n) w' := by subst h; exact ⟨⟨n, rfl, hn⟩, hb⟩
theorem Red.mk_yes {res : Option (Rx × Txt)} {t : Rx} {q : Txt} {w w' : World} {rb : Nat} {s : Txt} {l : List Cel} {M : Nat} (h : res = some (t, q)) (hr : Rd w' rb s q (l ++ post t)) (hm : (l ++ post t).length + 1 + 2 * q.length ≤ M) (hb : Below rb w w') : Red res w rb s l M (.returned (.tuple #[])) w' := by subst h; exact ⟨⟨rfl, hr, hm⟩, hb⟩

set_option maxRecDepth 20000 in
set_option maxHeartbeats 4000000 in
theorem pieceC {n : Nat} (H : RowsOK n) {w : World} {rb : Nat} {s q : Txt} {l : List Cel} {M : Nat} (h : Rd w rb s q l) (hs : s.length ≤ 200) (hn : q.length ≤ n) (hM : l.length + 2 * q.length ≤ M) (hM1 : M ≤ 1000) :
    Calls Try.prog 79 #[.pointer (some ⟨rb, 0, none⟩)] w (Red (pieceP q) w rb s l M) := by
  have GA := hid (atomC H h hs hn hM hM1)
  unfold pieceP
  cases e1 : atomP q with
  | none =>
    rw [e1] at GA
    show Calls _ _ _ _ (Red none w rb s l M)
    clear h e1
    go_enter Try.func79, Try.ntmps79
    go_wp2_with (go_at_call 88; refine GA.out.mono ?_; intro e w1 hw1; obtain ⟨⟨n1, he1, hn1⟩, hb1⟩ := hw1.no; subst he1)
    exact ⟨rfl, ⟨_, rfl, hn1⟩, hb1⟩
  | some x =>
    obtain ⟨t, r⟩ := x
    rw [e1] at GA
    show Calls _ _ _ _ (Red (some (starsF t r)) w rb s l M)
    obtain ⟨R, hR⟩ : ∃ R, Hid (starsF t r = R) := ⟨_, hid rfl⟩
    rw [hR.out]
    clear h e1
    go_enter Try.func79, Try.ntmps79
    go_wp2_with (go_at_call 88; refine GA.out.mono ?_; intro e w1 hw1; obtain ⟨he1, hr1, hm1, hb1⟩ := hw1.yes; subst he1; have hr1 := hid hr1; have hm1 := hid hm1)
    go_loopw [] (fun wr => ∃ t' q', Hid (Rd wr rb s q' (l ++ post t')) ∧ Hid (starsF t' q' = R) ∧ Hid ((l ++ post t').length + 1 + 2 * q'.length ≤ M) ∧ Below rb w wr) (fun wr => plcN wr rb s.length)
    case atStart => exact ⟨t, r, hr1, hR, hm1, hb1⟩
    case round =>
      obtain ⟨t', q', hrd, hst, hmm, hbw⟩ := hrel
      have hlen : (l ++ post t').length ≤ 1000 := by have := hmm.out; omega
      have hmu := hid hrd.out.left
      clear hR hr1 hm1 GA
      by_cases c1 : q'.head? = some 42
      · obtain ⟨r', rfl⟩ := head_is c1
        have G1 := hid (takeY hrd.out hs)
        rw [show ((42 : UInt8).toNat : Int) = 42 from rfl] at G1
        have G2 := hid (fun u (hu : Rd u rb s r' (l ++ post t')) => putC hu (by omega) 5 (by decide) (by decide))
        have hst' : Hid (starsF (.star t') r' = R) := hid (by rw [← hst.out]; simp [starsF])
        clear c1 hlen
        go_wp2_with (first
          | (go_at_call_of 65 (Value.int .u8 42); refine G1.out.mono ?_; rintro e w2 ⟨rfl, hr2, hb2⟩; have hr2 := hid hr2)
          | (go_at_call 66; refine (G2.out _ hr2.out).mono ?_; rintro e w3 ⟨rfl, hr3, hb3⟩; have hr3 := hid hr3))
        have hr4 : Rd w3 rb s r' (l ++ post (.star t')) := by rw [show l ++ post (.star t') = (l ++ post t') ++ [⟨5, noneB⟩] by simp [post]]; exact hr3.out
        go_roundw
        case rel =>
          refine ⟨.star t', r', hid hr4, hst', hid ?_, (hbw.trans hb2).trans hb3⟩
          have := hmm.out
          simp [post] at this ⊢
          omega
        case measure =>
          rw [hmu.out, hr4.left]
          simp
      have n1 : (q'.head? == some 42) = false := by simpa using c1
      have N1 := hid (fun u (hu : Rd u rb s q' (l ++ post t')) => takeN hu hs 42 n1)
      rw [show ((42 : UInt8).toNat : Int) = 42 from rfl] at N1
      by_cases c2 : q'.head? = some 43
      · obtain ⟨r', rfl⟩ := head_is c2
        have G1 := hid (fun u (hu : Rd u rb s (43 :: r') (l ++ post t')) => takeY hu hs)
        rw [show ((43 : UInt8).toNat : Int) = 43 from rfl] at G1
        have G2 := hid (fun u (hu : Rd u rb s r' (l ++ post t')) => putC hu (by omega) 6 (by decide) (by decide))
        have hst' : Hid (starsF (.plus t') r' = R) := hid (by rw [← hst.out]; simp [starsF])
        clear c1 c2 hlen n1
        go_wp2_with (first
          | (go_at_call_of 65 (Value.int .u8 42); refine (N1.out _ hrd.out).mono ?_; rintro e w1' ⟨rfl, hr1, hb1'⟩; have hr1 := hid hr1)
          | (go_at_call_of 65 (Value.int .u8 43); refine (G1.out _ hr1.out).mono ?_; rintro e w2 ⟨rfl, hr2, hb2⟩; have hr2 := hid hr2)
          | (go_at_call 66; refine (G2.out _ hr2.out).mono ?_; rintro e w3 ⟨rfl, hr3, hb3⟩; have hr3 := hid hr3))
        have hr4 : Rd w3 rb s r' (l ++ post (.plus t')) := by rw [show l ++ post (.plus t') = (l ++ post t') ++ [⟨6, noneB⟩] by simp [post]]; exact hr3.out
        go_roundw
        case rel =>
          refine ⟨.plus t', r', hid hr4, hst', hid ?_, ((hbw.trans hb1').trans hb2).trans hb3⟩
          have := hmm.out
          simp [post] at this ⊢
          omega
        case measure =>
          rw [hmu.out, hr4.left]
          simp
      have n2 : (q'.head? == some 43) = false := by simpa using c2
      have N2 := hid (fun u (hu : Rd u rb s q' (l ++ post t')) => takeN hu hs 43 n2)
      rw [show ((43 : UInt8).toNat : Int) = 43 from rfl] at N2
      by_cases c3 : q'.head? = some 63
      · obtain ⟨r', rfl⟩ := head_is c3
        have G1 := hid (fun u (hu : Rd u rb s (63 :: r') (l ++ post t')) => takeY hu hs)
        rw [show ((63 : UInt8).toNat : Int) = 63 from rfl] at G1
        have G2 := hid (fun u (hu : Rd u rb s r' (l ++ post t')) => putC hu (by omega) 7 (by decide) (by decide))
        have hst' : Hid (starsF (.opt t') r' = R) := hid (by rw [← hst.out]; simp [starsF])
        clear c1 c2 c3 hlen n1 n2
        go_wp2_with (first
          | (go_at_call_of 65 (Value.int .u8 42); refine (N1.out _ hrd.out).mono ?_; rintro e w1' ⟨rfl, hr1, hb1'⟩; have hr1 := hid hr1)
          | (go_at_call_of 65 (Value.int .u8 43); refine (N2.out _ hr1.out).mono ?_; rintro e w2' ⟨rfl, hr2', hb2'⟩; have hr2' := hid hr2')
          | (go_at_call_of 65 (Value.int .u8 63); refine (G1.out _ hr2'.out).mono ?_; rintro e w2 ⟨rfl, hr2, hb2⟩; have hr2 := hid hr2)
          | (go_at_call 66; refine (G2.out _ hr2.out).mono ?_; rintro e w3 ⟨rfl, hr3, hb3⟩; have hr3 := hid hr3))
        have hr4 : Rd w3 rb s r' (l ++ post (.opt t')) := by rw [show l ++ post (.opt t') = (l ++ post t') ++ [⟨7, noneB⟩] by simp [post]]; exact hr3.out
        go_roundw
        case rel =>
          refine ⟨.opt t', r', hid hr4, hst', hid ?_, (((hbw.trans hb1').trans hb2').trans hb2).trans hb3⟩
          have := hmm.out
          simp [post] at this ⊢
          omega
        case measure =>
          rw [hmu.out, hr4.left]
          simp
      have n3 : (q'.head? == some 63) = false := by simpa using c3
      have N3 := hid (fun u (hu : Rd u rb s q' (l ++ post t')) => takeN hu hs 63 n3)
      rw [show ((63 : UInt8).toNat : Int) = 63 from rfl] at N3
      have hst' : Hid (R = (t', q')) := hid (by
        rw [← hst.out]
        cases q' with
        | nil => rfl
        | cons c r => rw [starsF, if_neg (fun e => c1 (by rw [e]; rfl)), if_neg (fun e => c2 (by rw [e]; rfl)), if_neg (fun e => c3 (by rw [e]; rfl))])
      clear c1 c2 c3 hlen n1 n2 n3
      go_wp2_with (first
        | (go_at_call_of 65 (Value.int .u8 42); refine (N1.out _ hrd.out).mono ?_; rintro e w1' ⟨rfl, hr1, hb1'⟩; have hr1 := hid hr1)
        | (go_at_call_of 65 (Value.int .u8 43); refine (N2.out _ hr1.out).mono ?_; rintro e w2' ⟨rfl, hr2', hb2'⟩; have hr2' := hid hr2')
        | (go_at_call_of 65 (Value.int .u8 63); refine (N3.out _ hr2'.out).mono ?_; rintro e w2 ⟨rfl, hr2, hb2⟩; have hr2 := hid hr2))
      first | go_end0 | refine bodyPost_ret (results_none rfl _ _ _) rfl ?_
      exact Red.mk_yes (by rw [hst'.out]) hr2.out hmm.out (((hbw.trans hb1').trans hb2').trans hb2)

end Go.Proofs.Ytgbecehggdkkmaa
namespace Go.Proofs.Ytgbecehggdkkmaa
open Go.RowKit

set_option maxRecDepth 20000 in
theorem rowEndsR {w : World} {rb : Nat} {s q : Txt} {l : List Cel} (h : Rd w rb s q l) (hs : s.length ≤ 200) :
    Calls Try.prog 80 #[.pointer (some ⟨rb, 0, none⟩)] w fun e w' => e = .returned (.bool (rowEnd q)) ∧ Rd w' rb s q l ∧ Below rb w w' := by
  have hlt := h.lt
  have h' := h
  obtain ⟨v, h1, h2, h3⟩ := h
  exact (rowEndsC h1 hs).mono fun e w' hh => ⟨hh.1, h'.keep hh.2, low hlt hh.2⟩
theorem pieceP_lt {q r : Txt} {t : Rx} (h : pieceP q = some (t, r)) : r.length < q.length := by
  unfold pieceP at h
  cases e : atomP q with
  | none => rw [e] at h; cases h
  | some x =>
    obtain ⟨t', q'⟩ := x
    have h1 := atomP_lt e
    have h2 := stars_le q' t'
    rw [e] at h
    injection h with h
    rw [h] at h2
    simp at h2
    omega

set_option maxRecDepth 20000 in
set_option maxHeartbeats 4000000 in
theorem rowC {n : Nat} (H : RowsOK n) {w : World} {rb : Nat} {s q : Txt} {l : List Cel} {M : Nat} (h : Rd w rb s q l) (hs : s.length ≤ 200) (hn : q.length ≤ n) (hM : l.length + 2 * q.length ≤ M) (hM1 : M ≤ 1000) :
    Calls Try.prog 64 #[.pointer (some ⟨rb, 0, none⟩)] w (Red (rowP q) w rb s l M) := by
  have GA := hid (pieceC H h hs hn hM hM1)
  rw [rowP_piece]
  cases e1 : pieceP q with
  | none =>
    rw [e1] at GA
    show Calls _ _ _ _ (Red none w rb s l M)
    clear h e1
    go_enter Try.func64, Try.ntmps64
    go_wp2_with (go_at_call 79; refine GA.out.mono ?_; intro e w1 hw1; obtain ⟨⟨n1, he1, hn1⟩, hb1⟩ := hw1.no; subst he1)
    exact ⟨rfl, ⟨_, rfl, hn1⟩, hb1⟩
  | some x =>
    obtain ⟨t, r⟩ := x
    have hlt := pieceP_lt e1
    rw [e1] at GA
    show Calls _ _ _ _ (Red (moreP t r) w rb s l M)
    obtain ⟨R, hR⟩ : ∃ R, Hid (moreP t r = R) := ⟨_, hid rfl⟩
    rw [hR.out]
    clear h e1
    go_enter Try.func64, Try.ntmps64
    go_wp2_with (go_at_call 79; refine GA.out.mono ?_; intro e w1 hw1; obtain ⟨he1, hr1, hm1, hb1⟩ := hw1.yes; subst he1; have hr1 := hid hr1; have hm1 := hid hm1)
    go_loopw [] (fun wr => ∃ a q', Hid (Rd wr rb s q' (l ++ post a)) ∧ Hid (moreP a q' = R) ∧ Hid ((l ++ post a).length + 1 + 2 * q'.length ≤ M) ∧ q'.length ≤ n ∧ Below rb w wr) (fun wr => plcN wr rb s.length)
    case atStart => exact ⟨t, r, hr1, hR, hm1, by omega, hb1⟩
    case round =>
      obtain ⟨a, q', hrd, hst, hmm, hnq, hbw⟩ := hrel
      have hmu := hid hrd.out.left
      clear hR hr1 hm1 GA
      have GE := hid (rowEndsR hrd.out hs)
      have hst' := hst.out
      rw [moreP_piece] at hst'
      cases hre : rowEnd q' with
      | true =>
        rw [hre] at GE hst'
        have hst2 : Hid (R = some (a, q')) := hid (hst'.symm)
        clear hst' hre hst
        go_wp2_with (go_at_call 80; refine GE.out.mono ?_; rintro e w2 ⟨rfl, hr2, hb2⟩; have hr2 := hid hr2)
        first | go_end0 | refine bodyPost_ret (results_none rfl _ _ _) rfl ?_
        exact Red.mk_yes hst2.out hr2.out hmm.out (hbw.trans hb2)
      | false =>
        rw [hre] at GE hst'
        have hst1 : (match pieceP q' with
          | some (t, r) => moreP (.cat a t) r
          | none => none) = R := hst'
        have hmm' := hmm.out
        have GP := hid (fun u (hu : Rd u rb s q' (l ++ post a)) => pieceC H hu hs hnq (M := M - 1) (by omega) (by omega))
        clear hst' hre hst hmm'
        cases e2 : pieceP q' with
        | none =>
          rw [e2] at GP hst1
          have hst2 : Hid (R = none) := hid hst1.symm
          clear hst1 e2
          go_wp2_with (first
            | (go_at_call 80; refine GE.out.mono ?_; rintro e w2 ⟨rfl, hr2, hb2⟩; have hr2 := hid hr2)
            | (go_at_call 79; refine (GP.out _ hr2.out).mono ?_; intro e w3 hw3; obtain ⟨⟨n3, he3, hn3⟩, hb3⟩ := hw3.no; subst he3))
          exact ⟨rfl, Red.mk_no hst2.out hn3 ((hbw.trans hb2).trans hb3)⟩
        | some y =>
          obtain ⟨t2, r2⟩ := y
          have hlt2 := hid (pieceP_lt e2)
          rw [e2] at GP hst1
          have hst2 : Hid (moreP (.cat a t2) r2 = R) := hid hst1
          have G2 := hid (fun u (hu : Rd u rb s r2 ((l ++ post a) ++ post t2)) (hl : ((l ++ post a) ++ post t2).length ≤ 1000) => putC hu (by omega) 3 (by decide) (by decide))
          clear hst1 e2
          go_wp2_with (first
            | (go_at_call 80; refine GE.out.mono ?_; rintro e w2 ⟨rfl, hr2, hb2⟩; have hr2 := hid hr2)
            | (go_at_call 79; refine (GP.out _ hr2.out).mono ?_; intro e w3 hw3; obtain ⟨he3, hr3, hm3, hb3⟩ := hw3.yes; subst he3; have hr3 := hid hr3; have hm3' := hid (show (l ++ post a ++ post t2).length ≤ 1000 by omega); have hm3 := hid hm3)
            | (go_at_call 66; refine (G2.out _ hr3.out hm3'.out).mono ?_; rintro e w4 ⟨rfl, hr4, hb4⟩; have hr4 := hid hr4))
          have hr5 : Rd w4 rb s r2 (l ++ post (.cat a t2)) := by rw [show l ++ post (.cat a t2) = ((l ++ post a) ++ post t2) ++ [⟨3, noneB⟩] by simp [post]]; exact hr4.out
          go_roundw
          case rel =>
            have h1 := hm3.out
            have h2 := hlt2.out
            refine ⟨.cat a t2, r2, hid hr5, hst2, hid ?_, by omega, ((hbw.trans hb2).trans hb3).trans hb4⟩
            rw [show l ++ post (.cat a t2) = ((l ++ post a) ++ post t2) ++ [⟨3, noneB⟩] by simp [post], List.length_append]
            simp only [List.length_cons, List.length_nil]
            omega
          case measure =>
            rw [hmu.out, hr5.left]
            exact hlt2.out

set_option maxRecDepth 20000 in
set_option maxHeartbeats 4000000 in
theorem rowsN {n : Nat} (H : RowsOK n) {w : World} {rb : Nat} {s q : Txt} {l : List Cel} {M : Nat} (h : Rd w rb s q l) (hs : s.length ≤ 200) (hn : q.length ≤ n) (hM : l.length + 2 * q.length ≤ M) (hM1 : M ≤ 1000) :
    Calls Try.prog 57 #[.pointer (some ⟨rb, 0, none⟩)] w (Red (rowsP q) w rb s l M) := by
  have GA := hid (rowC H h hs hn hM hM1)
  rw [rowsP_eq]
  cases e1 : rowP q with
  | none =>
    rw [e1] at GA
    show Calls _ _ _ _ (Red none w rb s l M)
    clear h e1
    go_enter Try.func57, Try.ntmps57
    go_wp2_with (go_at_call 64; refine GA.out.mono ?_; intro e w1 hw1; obtain ⟨⟨n1, he1, hn1⟩, hb1⟩ := hw1.no; subst he1)
    exact ⟨rfl, ⟨_, rfl, hn1⟩, hb1⟩
  | some x =>
    obtain ⟨t, r⟩ := x
    have hlt := rowP_lt e1
    rw [e1] at GA
    show Calls _ _ _ _ (Red (orsP t r) w rb s l M)
    obtain ⟨R, hR⟩ : ∃ R, Hid (orsP t r = R) := ⟨_, hid rfl⟩
    rw [hR.out]
    clear h e1
    go_enter Try.func57, Try.ntmps57
    go_wp2_with (go_at_call 64; refine GA.out.mono ?_; intro e w1 hw1; obtain ⟨he1, hr1, hm1, hb1⟩ := hw1.yes; subst he1; have hr1 := hid hr1; have hm1 := hid hm1)
    go_loopw [] (fun wr => ∃ a q', Hid (Rd wr rb s q' (l ++ post a)) ∧ Hid (orsP a q' = R) ∧ Hid ((l ++ post a).length + 1 + 2 * q'.length ≤ M) ∧ q'.length ≤ n ∧ Below rb w wr) (fun wr => plcN wr rb s.length)
    case atStart => exact ⟨t, r, hr1, hR, hm1, by omega, hb1⟩
    case round =>
      obtain ⟨a, q', hrd, hst, hmm, hnq, hbw⟩ := hrel
      have hmu := hid hrd.out.left
      clear hR hr1 hm1 GA
      by_cases c1 : q'.head? = some 124
      · obtain ⟨q2, rfl⟩ := head_is c1
        have GE := hid (takeY hrd.out hs)
        rw [show ((124 : UInt8).toNat : Int) = 124 from rfl] at GE
        have hst' := hst.out
        rw [orsP_eq] at hst'
        have hst1 : (match rowP q2 with
          | some (t, q) => orsP (.or a t) q
          | none => none) = R := hst'
        have hmm' := hmm.out
        simp only [List.length_cons] at hmm' hnq
        have GP := hid (fun u (hu : Rd u rb s q2 (l ++ post a)) => rowC H hu hs (by omega) (M := M - 1) (by omega) (by omega))
        clear hst' hst c1 hmm'
        cases e2 : rowP q2 with
        | none =>
          rw [e2] at GP hst1
          have hst2 : Hid (R = none) := hid hst1.symm
          clear hst1 e2
          go_wp2_with (first
            | (go_at_call 65; refine GE.out.mono ?_; rintro e w2 ⟨rfl, hr2, hb2⟩; have hr2 := hid hr2)
            | (go_at_call 64; refine (GP.out _ hr2.out).mono ?_; intro e w3 hw3; obtain ⟨⟨n3, he3, hn3⟩, hb3⟩ := hw3.no; subst he3))
          exact ⟨rfl, Red.mk_no hst2.out hn3 ((hbw.trans hb2).trans hb3)⟩
        | some y =>
          obtain ⟨t2, r2⟩ := y
          have hlt2 := hid (rowP_lt e2)
          rw [e2] at GP hst1
          have hst2 : Hid (orsP (.or a t2) r2 = R) := hid hst1
          have G2 := hid (fun u (hu : Rd u rb s r2 ((l ++ post a) ++ post t2)) (hl : ((l ++ post a) ++ post t2).length ≤ 1000) => putC hu (by omega) 4 (by decide) (by decide))
          clear hst1 e2
          go_wp2_with (first
            | (go_at_call 65; refine GE.out.mono ?_; rintro e w2 ⟨rfl, hr2, hb2⟩; have hr2 := hid hr2)
            | (go_at_call 64; refine (GP.out _ hr2.out).mono ?_; intro e w3 hw3; obtain ⟨he3, hr3, hm3, hb3⟩ := hw3.yes; subst he3; have hr3 := hid hr3; have hm3' := hid (show (l ++ post a ++ post t2).length ≤ 1000 by omega); have hm3 := hid hm3)
            | (go_at_call 66; refine (G2.out _ hr3.out hm3'.out).mono ?_; rintro e w4 ⟨rfl, hr4, hb4⟩; have hr4 := hid hr4))
          have hr5 : Rd w4 rb s r2 (l ++ post (.or a t2)) := by rw [show l ++ post (.or a t2) = ((l ++ post a) ++ post t2) ++ [⟨4, noneB⟩] by simp [post]]; exact hr4.out
          go_roundw
          case rel =>
            have h1 := hm3.out
            have h2 := hlt2.out
            refine ⟨.or a t2, r2, hid hr5, hst2, hid ?_, by omega, ((hbw.trans hb2).trans hb3).trans hb4⟩
            rw [show l ++ post (.or a t2) = ((l ++ post a) ++ post t2) ++ [⟨4, noneB⟩] by simp [post], List.length_append]
            simp only [List.length_cons, List.length_nil]
            omega
          case measure =>
            have h2 := hlt2.out
            rw [hmu.out, hr5.left]
            simp only [List.length_cons]
            omega
      · have hno : (q'.head? == some 124) = false := by simpa using c1
        have GE := hid (takeN hrd.out hs 124 hno)
        rw [show ((124 : UInt8).toNat : Int) = 124 from rfl] at GE
        have hst' := hst.out
        rw [orsP_eq, hno] at hst'
        have hst2 : Hid (R = some (a, q')) := hid hst'.symm
        clear hst' hst c1 hno
        go_wp2_with (go_at_call 65; refine GE.out.mono ?_; rintro e w2 ⟨rfl, hr2, hb2⟩; have hr2 := hid hr2)
        first | go_end0 | refine bodyPost_ret (results_none rfl _ _ _) rfl ?_
        exact Red.mk_yes hst2.out hr2.out hmm.out (hbw.trans hb2)

theorem rowsOK : ∀ n, RowsOK n
  | 0 => fun _ _ _ _ _ _ _ _ h _ _ => absurd h (Nat.not_lt_zero _)
  | n + 1 => fun _ _ _ _ _ _ h hs hn hM hM1 => rowsN (rowsOK n) h hs (Nat.le_of_lt_succ hn) hM hM1
set_option maxRecDepth 20000 in
theorem rowsC {w : World} {rb : Nat} {s q : Txt} {l : List Cel} {M : Nat} (h : Rd w rb s q l) (hs : s.length ≤ 200) (hM : l.length + 2 * q.length ≤ M) (hM1 : M ≤ 1000) :
    Calls Try.prog 57 #[.pointer (some ⟨rb, 0, none⟩)] w (Red (rowsP q) w rb s l M) := rowsOK (q.length + 1) w rb s q l M h hs (Nat.lt_succ_self _) hM hM1

end Go.Proofs.Ytgbecehggdkkmaa
