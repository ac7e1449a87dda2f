/- The reader: pieces, rows. -/
import Derived.Test.YtjiljfmejgiabaaAtom2
namespace Go.Proofs.Ytjiljfmejgiabaa
open Go.RowKit

def pieceP (q : Txt) : Option (Rx × Txt) := match atomP q with
  | some (t, r) => some (starsF t r)
  | none => none
theorem rowP_piece (q : Txt) : rowP q = match pieceP q with
    | some (t, r) => moreP t r
    | none => none := by
  rw [rowP_eq]
  unfold pieceP
  cases atomP q with
  | none => rfl
  | some x => rfl
theorem moreP_piece (a : Rx) (q : Txt) : moreP a q = if rowEnd q then some (a, q) else match pieceP q with
    | some (t, r) => moreP (.cat a t) r
    | none => none := by
  rw [moreP_eq]
  unfold pieceP
  cases atomP q with
  | none => rfl
  | some x => rfl
theorem Red.mk_no {res : Option (Rx × Txt)} {w w' : World} {rb : Nat} {s : Txt} {l : List Cel} {M : Nat} (h : res = none) {n : Int} (hn : s = [40, 97] → n = 2) (hb : Below rb w w') : Red res w rb s l M (faultE n) w' := by subst h; exact ⟨⟨n, rfl, hn⟩, hb⟩
theorem Red.mk_yes {res : Option (Rx × Txt)} {t : Rx} {q : Txt} {w w' : World} {rb : Nat} {s : Txt} {l : List Cel} {M : Nat} (h : res = some (t, q)) (hr : Rd w' rb s q (l ++ post t)) (hm : (l ++ post t).length + 1 + 2 * q.length ≤ M) (hb : Below rb w w') : Red res w rb s l M (.returned (.tuple #[])) w' := by subst h; exact ⟨⟨rfl, hr, hm⟩, hb⟩

set_option maxHeartbeats 4000000 in
theorem pieceC {n : Nat} (H : RowsOK n) {w : World} {rb : Nat} {s q : Txt} {l : List Cel} {M : Nat} (h : Rd w rb s q l) (hs : s.length ≤ 200) (hn : q.length ≤ n) (hM : l.length + 2 * q.length ≤ M) (hM1 : M ≤ 1000) :
    Calls Try.prog 26 #[.pointer (some ⟨rb, 0, none⟩)] w (Red (pieceP q) w rb s l M) := by
  have GA := hid (atomC H h hs hn hM hM1)
  unfold pieceP
  cases e1 : atomP q with
  | none =>
    rw [e1] at GA
    show Calls _ _ _ _ (Red none w rb s l M)
    clear h e1
    go_enter Try.func26, Try.ntmps26
    go_wp2_with (go_at_call 29; refine GA.out.mono ?_; intro e w1 hw1; obtain ⟨⟨n1, he1, hn1⟩, hb1⟩ := hw1.no; subst he1)
    exact ⟨rfl, ⟨_, rfl, hn1⟩, hb1⟩
  | some x =>
    obtain ⟨t, r⟩ := x
    rw [e1] at GA
    show Calls _ _ _ _ (Red (some (starsF t r)) w rb s l M)
    obtain ⟨R, hR⟩ : ∃ R, Hid (starsF t r = R) := ⟨_, hid rfl⟩
    rw [hR.out]
    clear h e1
    go_enter Try.func26, Try.ntmps26
    go_wp2_with (go_at_call 29; refine GA.out.mono ?_; intro e w1 hw1; obtain ⟨he1, hr1, hm1, hb1⟩ := hw1.yes; subst he1; have hr1 := hid hr1; have hm1 := hid hm1)
    go_loopw [] (fun wr => ∃ t' q', Hid (Rd wr rb s q' (l ++ post t')) ∧ Hid (starsF t' q' = R) ∧ Hid ((l ++ post t').length + 1 + 2 * q'.length ≤ M) ∧ Below rb w wr) (fun wr => plcN wr rb s.length)
    case atStart => exact ⟨t, r, hr1, hR, hm1, hb1⟩
    case round =>
      obtain ⟨t', q', hrd, hst, hmm, hbw⟩ := hrel
      have hlen : (l ++ post t').length ≤ 1000 := by have := hmm.out; omega
      have hmu := hid hrd.out.left
      clear hR hr1 hm1 GA
      by_cases c1 : q'.head? = some 42
      · obtain ⟨r', rfl⟩ := head_is c1
        have G1 := hid (takeY hrd.out hs)
        rw [show ((42 : UInt8).toNat : Int) = 42 from rfl] at G1
        have G2 := hid (fun u (hu : Rd u rb s r' (l ++ post t')) => putC hu (by omega) 5 (by decide) (by decide))
        have hst' : Hid (starsF (.star t') r' = R) := hid (by rw [← hst.out]; simp [starsF])
        clear c1 hlen
        go_wp2_with (first
          | (go_at_call_of 24 (Value.int .u8 42); refine G1.out.mono ?_; rintro e w2 ⟨rfl, hr2, hb2⟩; have hr2 := hid hr2)
          | (go_at_call 25; refine (G2.out _ hr2.out).mono ?_; rintro e w3 ⟨rfl, hr3, hb3⟩; have hr3 := hid hr3))
        have hr4 : Rd w3 rb s r' (l ++ post (.star t')) := by rw [show l ++ post (.star t') = (l ++ post t') ++ [⟨5, noneB⟩] by simp [post]]; exact hr3.out
        go_roundw
        case rel =>
          refine ⟨.star t', r', hid hr4, hst', hid ?_, (hbw.trans hb2).trans hb3⟩
          have := hmm.out
          simp [post] at this ⊢
          omega
        case measure =>
          rw [hmu.out, hr4.left]
          simp
      have n1 : (q'.head? == some 42) = false := by simpa using c1
      have N1 := hid (fun u (hu : Rd u rb s q' (l ++ post t')) => takeN hu hs 42 n1)
      rw [show ((42 : UInt8).toNat : Int) = 42 from rfl] at N1
      by_cases c2 : q'.head? = some 43
      · obtain ⟨r', rfl⟩ := head_is c2
        have G1 := hid (fun u (hu : Rd u rb s (43 :: r') (l ++ post t')) => takeY hu hs)
        rw [show ((43 : UInt8).toNat : Int) = 43 from rfl] at G1
        have G2 := hid (fun u (hu : Rd u rb s r' (l ++ post t')) => putC hu (by omega) 6 (by decide) (by decide))
        have hst' : Hid (starsF (.plus t') r' = R) := hid (by rw [← hst.out]; simp [starsF])
        clear c1 c2 hlen n1
        go_wp2_with (first
          | (go_at_call_of 24 (Value.int .u8 42); refine (N1.out _ hrd.out).mono ?_; rintro e w1' ⟨rfl, hr1, hb1'⟩; have hr1 := hid hr1)
          | (go_at_call_of 24 (Value.int .u8 43); refine (G1.out _ hr1.out).mono ?_; rintro e w2 ⟨rfl, hr2, hb2⟩; have hr2 := hid hr2)
          | (go_at_call 25; refine (G2.out _ hr2.out).mono ?_; rintro e w3 ⟨rfl, hr3, hb3⟩; have hr3 := hid hr3))
        have hr4 : Rd w3 rb s r' (l ++ post (.plus t')) := by rw [show l ++ post (.plus t') = (l ++ post t') ++ [⟨6, noneB⟩] by simp [post]]; exact hr3.out
        go_roundw
        case rel =>
          refine ⟨.plus t', r', hid hr4, hst', hid ?_, ((hbw.trans hb1').trans hb2).trans hb3⟩
          have := hmm.out
          simp [post] at this ⊢
          omega
        case measure =>
          rw [hmu.out, hr4.left]
          simp
      have n2 : (q'.head? == some 43) = false := by simpa using c2
      have N2 := hid (fun u (hu : Rd u rb s q' (l ++ post t')) => takeN hu hs 43 n2)
      rw [show ((43 : UInt8).toNat : Int) = 43 from rfl] at N2
      by_cases c3 : q'.head? = some 63
      · obtain ⟨r', rfl⟩ := head_is c3
        have G1 := hid (fun u (hu : Rd u rb s (63 :: r') (l ++ post t')) => takeY hu hs)
        rw [show ((63 : UInt8).toNat : Int) = 63 from rfl] at G1
        have G2 := hid (fun u (hu : Rd u rb s r' (l ++ post t')) => putC hu (by omega) 7 (by decide) (by decide))
        have hst' : Hid (starsF (.opt t') r' = R) := hid (by rw [← hst.out]; simp [starsF])
        clear c1 c2 c3 hlen n1 n2
        go_wp2_with (first
          | (go_at_call_of 24 (Value.int .u8 42); refine (N1.out _ hrd.out).mono ?_; rintro e w1' ⟨rfl, hr1, hb1'⟩; have hr1 := hid hr1)
          | (go_at_call_of 24 (Value.int .u8 43); refine (N2.out _ hr1.out).mono ?_; rintro e w2' ⟨rfl, hr2', hb2'⟩; have hr2' := hid hr2')
          | (go_at_call_of 24 (Value.int .u8 63); refine (G1.out _ hr2'.out).mono ?_; rintro e w2 ⟨rfl, hr2, hb2⟩; have hr2 := hid hr2)
          | (go_at_call 25; refine (G2.out _ hr2.out).mono ?_; rintro e w3 ⟨rfl, hr3, hb3⟩; have hr3 := hid hr3))
        have hr4 : Rd w3 rb s r' (l ++ post (.opt t')) := by rw [show l ++ post (.opt t') = (l ++ post t') ++ [⟨7, noneB⟩] by simp [post]]; exact hr3.out
        go_roundw
        case rel =>
          refine ⟨.opt t', r', hid hr4, hst', hid ?_, (((hbw.trans hb1').trans hb2').trans hb2).trans hb3⟩
          have := hmm.out
          simp [post] at this ⊢
          omega
        case measure =>
          rw [hmu.out, hr4.left]
          simp
      have n3 : (q'.head? == some 63) = false := by simpa using c3
      have N3 := hid (fun u (hu : Rd u rb s q' (l ++ post t')) => takeN hu hs 63 n3)
      rw [show ((63 : UInt8).toNat : Int) = 63 from rfl] at N3
      have hst' : Hid (R = (t', q')) := hid (by
        rw [← hst.out]
        cases q' with
        | nil => rfl
        | cons c r => rw [starsF, if_neg (fun e => c1 (by rw [e]; rfl)), if_neg (fun e => c2 (by rw [e]; rfl)), if_neg (fun e => c3 (by rw [e]; rfl))])
      clear c1 c2 c3 hlen n1 n2 n3
      go_wp2_with (first
        | (go_at_call_of 24 (Value.int .u8 42); refine (N1.out _ hrd.out).mono ?_; rintro e w1' ⟨rfl, hr1, hb1'⟩; have hr1 := hid hr1)
        | (go_at_call_of 24 (Value.int .u8 43); refine (N2.out _ hr1.out).mono ?_; rintro e w2' ⟨rfl, hr2', hb2'⟩; have hr2' := hid hr2')
        | (go_at_call_of 24 (Value.int .u8 63); refine (N3.out _ hr2'.out).mono ?_; rintro e w2 ⟨rfl, hr2, hb2⟩; have hr2 := hid hr2))
      first | go_end0 | refine bodyPost_ret (results_none rfl _ _ _) rfl ?_
      exact Red.mk_yes (by rw [hst'.out]) hr2.out hmm.out (((hbw.trans hb1').trans hb2').trans hb2)

end Go.Proofs.Ytjiljfmejgiabaa
