/- The reader: atoms, pieces. The reader: pieces, rows. The reader: a row, rows. The reader: read, which catches faults. -/
import Derived.Test.YtonlcnmlklaicaaGreatDoorJ22
import Derived.Defers
import Derived.Recover
namespace Go.Proofs.YtonlcnmlklaicaaGreatDoor
open Go.RowKit

theorem read_fit : ∀ (n : Nat) (first : Bool) (acc : W4) (s : Txt) (S : W4) (q : Txt), Fit4 acc → itemsF n first acc s = some (S, q) → Fit4 S
  | 0, _, _, _, _, _, _, h => by simp [itemsF] at h
  | n + 1, first, acc, s, S, q, hf, h => by
    rw [items_item] at h
    split at h
    · injection h with h; injection h with h _; subst h; exact hf
    split at h
    · cases h
    · exact read_fit n false _ _ S q (or_fit _ _) h
theorem readC_fit {n : Nat} {q r : Txt} {S : W4} (h : classF n q = some (S, r)) : Fit4 S := by
  rw [classF_fin] at h
  generalize (q.head? == some 94) = oth at h
  cases e : itemsF n true noneB (if oth = true then q.tail else q) with
  | none => rw [e] at h; cases h
  | some x =>
    obtain ⟨S', r'⟩ := x
    have hf := read_fit _ _ _ _ _ _ noneB_fit e
    have hT : Fit4 (if oth = true then notB S' else S') := by
      split
      · exact not_fit _
      · exact hf
    rw [e] at h
    simp only [finC] at h
    generalize (if oth = true then notB S' else S') = T at h hT
    by_cases hz : T = noneB
    · rw [if_pos hz] at h; cases h
    · rw [if_neg hz] at h; injection h with h; injection h with h _; subst h; exact hT
set_option maxRecDepth 20000 in
theorem toldR {w : World} {rb : Nat} {s q : Txt} {l : List Cel} (h : Rd w rb s q l) (hs : s.length ≤ 200) :
    Calls Tryz.prog 114 #[.pointer (some ⟨rb, 0, none⟩), .string atomS] w fun e w' => (match signF leftA q with | some (b, r) => e = .returned (.int .u8 (b : Int)) ∧ Rd w' rb s r l | none => e = faultE (plc s q)) ∧ Below rb w w' := by
  have hlt := h.lt
  obtain ⟨v, h1, h2, h3⟩ := h
  refine (toldC h1 hs atomS leftA tells_atom).mono fun e w' hh => ?_
  obtain ⟨hh1, hk⟩ := hh
  refine ⟨?_, kept_low hlt hk⟩
  cases e1 : signF leftA q with
  | none => rw [e1] at hh1; exact hh1
  | some x => rw [e1] at hh1; exact ⟨hh1.1, v, hh1.2, own_keptR h1 h2 hk, h3⟩
set_option maxRecDepth 20000 in
theorem classR {w : World} {rb : Nat} {s q : Txt} {l : List Cel} (h : Rd w rb s q l) (hs : s.length ≤ 200) (p : Int) :
    Calls Tryz.prog 111 #[.pointer (some ⟨rb, 0, none⟩), .int .i64 p] w fun e w' => (match classF (q.length + 1) q with | some (S, r) => e = .returned (valB S) ∧ Rd w' rb s r l | none => ∃ n, e = faultE n) ∧ Below rb w w' := by
  have hlt := h.lt
  obtain ⟨v, h1, h2, h3⟩ := h
  refine (classC h1 hs p).mono fun e w' hh => ?_
  obtain ⟨hh1, hk⟩ := hh
  refine ⟨?_, kept_low hlt hk⟩
  cases e1 : classF (q.length + 1) q with
  | none => rw [e1] at hh1; exact hh1
  | some x => rw [e1] at hh1; exact ⟨hh1.1, v, hh1.2, own_keptR h1 h2 hk, h3⟩

set_option maxRecDepth 20000 in
set_option maxHeartbeats 4000000 in
theorem atomC {n : Nat} (H : RowsOK n) {w : World} {rb : Nat} {s q : Txt} {l : List Cel} {M : Nat} (h : Rd w rb s q l) (hs : s.length ≤ 200) (hn : q.length ≤ n) (hM : l.length + 2 * q.length ≤ M) (hM1 : M ≤ 1000) :
    Calls Tryz.prog 99 #[.pointer (some ⟨rb, 0, none⟩)] w (Red (atomP q) w rb s l M) := by
  have hpl := h.place
  obtain ⟨pre, hpre⟩ := h.suf
  have hlt := h.lt
  by_cases c1 : q.head? = some 40
  · obtain ⟨r, rfl⟩ := head_is c1
    have G1 := hid (takeY h hs)
    rw [show ((40 : UInt8).toNat : Int) = 40 from rfl] at G1
    have hfst : s = [40, 97] → r = [97] := fun he => by
      rcases suf2 (he ▸ hpre) with h' | h' | h'
      · injection h' with _ h'
      · injection h' with h' _; exact absurd h' (by decide)
      · cases h'
    have G2 := hid (fun u (hu : Rd u rb s r l) => groupC H hu hs (by simp at hn; omega) (M := M) (by simp at hM; omega) hM1 hfst)
    rw [show atomP (40 :: r) = groupP r by rw [atomP_eq, if_pos rfl]; rfl]
    clear h c1 hfst hpre
    generalize plc s (40 :: r) = p at hpl
    cases e1 : groupP r with
    | none =>
      rw [e1] at G2
      clear e1
      go_enter Tryz.func99, Tryz.ntmps99
      go_wp2_with (first
        | (go_at_call 83; refine G1.out.mono ?_; rintro e w1 ⟨rfl, hr1, hb1⟩; have hr1 := hid hr1)
        | (go_at_call 109; refine (G2.out _ hr1.out).mono ?_; intro e w2 hw2; obtain ⟨⟨n2, he2, hn2⟩, hb2⟩ := hw2.no; subst he2))
      exact ⟨rfl, ⟨_, rfl, hn2⟩, hb1.trans hb2⟩
    | some x =>
      obtain ⟨t, q'⟩ := x
      rw [e1] at G2
      clear e1
      go_enter Tryz.func99, Tryz.ntmps99
      go_wp2_with (first
        | (go_at_call 83; refine G1.out.mono ?_; rintro e w1 ⟨rfl, hr1, hb1⟩; have hr1 := hid hr1)
        | (go_at_call 109; refine (G2.out _ hr1.out).mono ?_; intro e w2 hw2; obtain ⟨he2, hr2, hm2, hb2⟩ := hw2.yes; subst he2; have hr2 := hid hr2; have hm2 := hid hm2))
      first | go_end0 | refine bodyPost_ret (results_none rfl _ _ _) rfl ?_
      exact ⟨⟨rfl, hr2.out, hm2.out⟩, hb1.trans hb2⟩
  have n1 : (q.head? == some 40) = false := by simpa using c1
  have N1 := hid (fun u (hu : Rd u rb s q l) => takeN hu hs 40 n1)
  rw [show ((40 : UInt8).toNat : Int) = 40 from rfl] at N1
  by_cases c2 : q.head? = some 91
  · obtain ⟨r, rfl⟩ := head_is c2
    have hno : s = [40, 97] → False := fun he => by
      rcases suf2 (he ▸ hpre) with h' | h' | h'
      · injection h' with h' _; exact absurd h' (by decide)
      · injection h' with h' _; exact absurd h' (by decide)
      · cases h'
    have G1 := hid (fun u (hu : Rd u rb s (91 :: r) l) => takeY hu hs)
    rw [show ((91 : UInt8).toNat : Int) = 91 from rfl] at G1
    have ea : atomP (91 :: r) = match classF (r.length + 1) r with
      | some (S, q) => some (.set S, q)
      | none => none := by rw [atomP_eq, if_neg (by decide), if_neg (by decide), if_pos rfl]; rfl
    rw [ea]
    generalize plc s (91 :: r) = p at hpl
    have G2 := hid (fun u (hu : Rd u rb s r l) => classR hu hs p)
    have h0 := hid h
    clear h c1 c2 n1 hpre ea
    cases e1 : classF (r.length + 1) r with
    | none =>
      rw [e1] at G2
      clear e1
      show Calls _ _ _ _ (Red none w rb s l M)
      go_enter Tryz.func99, Tryz.ntmps99
      go_wp2_with (first
        | (go_at_call_of 83 (Value.int .u8 40); refine (N1.out _ h0.out).mono ?_; rintro e w1 ⟨rfl, hr1, hb1⟩; have hr1 := hid hr1)
        | (go_at_call_of 83 (Value.int .u8 91); refine (G1.out _ hr1.out).mono ?_; rintro e w2 ⟨rfl, hr2, hb2⟩; have hr2 := hid hr2)
        | (go_at_call 111; refine (G2.out _ hr2.out).mono ?_; rintro e w3 ⟨⟨n3, he3⟩, hb3⟩; subst he3))
      exact ⟨rfl, ⟨_, rfl, fun he => (hno he).elim⟩, (hb1.trans hb2).trans hb3⟩
    | some x =>
      obtain ⟨⟨a0, a1, a2, a3⟩, q'⟩ := x
      have hf := readC_fit e1
      have hq' := class_le e1
      rw [e1] at G2
      have G3 := hid (fun u (hu : Rd u rb s q' l) => putSetC hu (by omega) a0 a1 a2 a3 hf)
      clear e1
      show Calls _ _ _ _ (Red (some (.set ⟨a0, a1, a2, a3⟩, q')) w rb s l M)
      go_enter Tryz.func99, Tryz.ntmps99
      go_wp2_with (first
        | (go_at_call_of 83 (Value.int .u8 40); refine (N1.out _ h0.out).mono ?_; rintro e w1 ⟨rfl, hr1, hb1⟩; have hr1 := hid hr1)
        | (go_at_call_of 83 (Value.int .u8 91); refine (G1.out _ hr1.out).mono ?_; rintro e w2 ⟨rfl, hr2, hb2⟩; have hr2 := hid hr2)
        | (go_at_call 111; refine (G2.out _ hr2.out).mono ?_; rintro e w3 ⟨⟨he3, hr3⟩, hb3⟩; subst he3; have hr3 := hid hr3)
        | (go_at_call 110; refine (G3.out _ hr3.out).mono ?_; rintro e w4 ⟨rfl, hr4, hb4⟩; have hr4 := hid hr4))
      first | go_end0 | refine bodyPost_ret (results_none rfl _ _ _) rfl ?_
      refine ⟨⟨rfl, hr4.out, ?_⟩, ((hb1.trans hb2).trans hb3).trans hb4⟩
      simp at hM ⊢
      simp [post]
      omega
  have n2 : (q.head? == some 91) = false := by simpa using c2
  have N2 := hid (fun u (hu : Rd u rb s q l) => takeN hu hs 91 n2)
  rw [show ((91 : UInt8).toNat : Int) = 91 from rfl] at N2
  by_cases c3 : q.head? = some 46
  · obtain ⟨r, rfl⟩ := head_is c3
    have G1 := hid (fun u (hu : Rd u rb s (46 :: r) l) => takeY hu hs)
    rw [show ((46 : UInt8).toNat : Int) = 46 from rfl] at G1
    have ea : atomP (46 :: r) = some (.set (notB (spanB 10 10)), r) := by rw [atomP_eq, if_neg (by decide), if_pos rfl]
    rw [ea]
    generalize plc s (46 :: r) = p at hpl
    have G2 := hid pointC
    have hf := not_fit (spanB 10 10)
    generalize notB (spanB 10 10) = T at G2 hf ⊢
    obtain ⟨a0, a1, a2, a3⟩ := T
    have G3 := hid (fun u (hu : Rd u rb s r l) => putSetC hu (by omega) a0 a1 a2 a3 hf)
    have h0 := hid h
    clear h c1 c2 c3 n1 n2 hpre ea
    go_enter Tryz.func99, Tryz.ntmps99
    go_wp2_with (first
      | (go_at_call_of 83 (Value.int .u8 40); refine (N1.out _ h0.out).mono ?_; rintro e w1 ⟨rfl, hr1, hb1⟩; have hr1 := hid hr1)
      | (go_at_call_of 83 (Value.int .u8 91); refine (N2.out _ hr1.out).mono ?_; rintro e w2 ⟨rfl, hr2, hb2⟩; have hr2 := hid hr2)
      | (go_at_call_of 83 (Value.int .u8 46); refine (G1.out _ hr2.out).mono ?_; rintro e w3 ⟨rfl, hr3, hb3⟩; have hlt3 := hr3.lt; have hr3 := hid hr3)
      | (go_at_call 112; refine (G2.out _).mono ?_; rintro e w4 ⟨rfl, hb4⟩; have hr4 := hid (hr3.out.keep hb4); have hb4' := low hlt3 hb4)
      | (go_at_call 110; refine (G3.out _ hr4.out).mono ?_; rintro e w5 ⟨rfl, hr5, hb5⟩; have hr5 := hid hr5))
    first | go_end0 | refine bodyPost_ret (results_none rfl _ _ _) rfl ?_
    refine ⟨⟨rfl, hr5.out, ?_⟩, (((hb1.trans hb2).trans hb3).trans hb4').trans hb5⟩
    simp at hM ⊢
    simp [post]
    omega
  have n3 : (q.head? == some 46) = false := by simpa using c3
  have N3 := hid (fun u (hu : Rd u rb s q l) => takeN hu hs 46 n3)
  rw [show ((46 : UInt8).toNat : Int) = 46 from rfl] at N3
  have ea : atomP q = match signF leftA q with
      | some (b, r) => some (.set (spanB b b), r)
      | none => none := by
    cases q with
    | nil => rfl
    | cons c r =>
      rw [atomP_eq, if_neg (fun e => c1 (by rw [e]; rfl)), if_neg (fun e => c3 (by rw [e]; rfl)), if_neg (fun e => c2 (by rw [e]; rfl))]
      rfl
  rw [ea]
  have G2 := hid (fun u (hu : Rd u rb s q l) => toldR hu hs)
  have h0 := hid h
  cases e1 : signF leftA q with
  | none =>
    rw [e1] at G2
    have hp2 : s = [40, 97] → plc s q = 2 := fun he => by
      rcases suf2 (he ▸ hpre) with h' | h' | h'
      · subst h'; exact absurd rfl c1
      · subst h'; cases e1
      · subst h'; subst he; rfl
    clear e1 h c1 c2 c3 n1 n2 n3 hpre ea
    generalize plc s q = p at hpl G2 hp2
    show Calls _ _ _ _ (Red none w rb s l M)
    go_enter Tryz.func99, Tryz.ntmps99
    go_wp2_with (first
      | (go_at_call_of 83 (Value.int .u8 40); refine (N1.out _ h0.out).mono ?_; rintro e w1 ⟨rfl, hr1, hb1⟩; have hr1 := hid hr1)
      | (go_at_call_of 83 (Value.int .u8 91); refine (N2.out _ hr1.out).mono ?_; rintro e w2 ⟨rfl, hr2, hb2⟩; have hr2 := hid hr2)
      | (go_at_call_of 83 (Value.int .u8 46); refine (N3.out _ hr2.out).mono ?_; rintro e w3 ⟨rfl, hr3, hb3⟩; have hr3 := hid hr3)
      | (go_at_call 114; refine (G2.out _ hr3.out).mono ?_; rintro e w4 ⟨he4, hb4⟩; subst he4))
    exact ⟨rfl, ⟨_, rfl, hp2⟩, ((hb1.trans hb2).trans hb3).trans hb4⟩
  | some x =>
    obtain ⟨b, r⟩ := x
    have hb := sign_byte e1
    have hr := signF_lt e1
    rw [e1] at G2
    have G3 := hid (fun u => oneC b u hb)
    have hf := span_fit b b
    show Calls _ _ _ _ (Red (some (.set (spanB b b), r)) w rb s l M)
    generalize spanB b b = T at G3 hf ⊢
    obtain ⟨a0, a1, a2, a3⟩ := T
    have G4 := hid (fun u (hu : Rd u rb s r l) => putSetC hu (by omega) a0 a1 a2 a3 hf)
    clear e1 h c1 c2 c3 n1 n2 n3 hpre ea
    generalize plc s q = p at hpl
    go_enter Tryz.func99, Tryz.ntmps99
    go_wp2_with (first
      | (go_at_call_of 83 (Value.int .u8 40); refine (N1.out _ h0.out).mono ?_; rintro e w1 ⟨rfl, hr1, hb1⟩; have hr1 := hid hr1)
      | (go_at_call_of 83 (Value.int .u8 91); refine (N2.out _ hr1.out).mono ?_; rintro e w2 ⟨rfl, hr2, hb2⟩; have hr2 := hid hr2)
      | (go_at_call_of 83 (Value.int .u8 46); refine (N3.out _ hr2.out).mono ?_; rintro e w3 ⟨rfl, hr3, hb3⟩; have hr3 := hid hr3)
      | (go_at_call 114; refine (G2.out _ hr3.out).mono ?_; rintro e w4 ⟨⟨he4, hr4⟩, hb4⟩; subst he4; have hlt4 := hr4.lt; have hr4 := hid hr4)
      | (go_at_call 113; refine (G3.out _).mono ?_; rintro e w5 ⟨rfl, hb5⟩; have hr5 := hid (hr4.out.keep hb5); have hb5' := low hlt4 hb5)
      | (go_at_call 110; refine (G4.out _ hr5.out).mono ?_; rintro e w6 ⟨rfl, hr6, hb6⟩; have hr6 := hid hr6))
    first | go_end0 | refine bodyPost_ret (results_none rfl _ _ _) rfl ?_
    refine ⟨⟨rfl, hr6.out, ?_⟩, ((((hb1.trans hb2).trans hb3).trans hb4).trans hb5').trans hb6⟩
    simp [post]
    omega

end Go.Proofs.YtonlcnmlklaicaaGreatDoor
namespace Go.Proofs.YtonlcnmlklaicaaGreatDoor
open Go.RowKit

def pieceP (q : Txt) : Option (Rx × Txt) := match atomP q with
  | some (t, r) => some (starsF t r)
  | none => none
theorem rowP_piece (q : Txt) : rowP q = match pieceP q with
    | some (t, r) => moreP t r
    | none => none := by
  rw [rowP_eq]
  unfold pieceP
  cases atomP q with
  | none => rfl
  | some x => rfl
theorem moreP_piece (a : Rx) (q : Txt) : moreP a q = if rowEnd q then some (a, q) else match pieceP q with
    | some (t, r) => moreP (.cat a t) r
    | none => none := by
  rw [moreP_eq]
  unfold pieceP
  cases atomP q with
  | none => rfl
  | some x => rfl
theorem Red.mk_no {res : Option (Rx × Txt)} {w w' : World} {rb : Nat} {s : Txt} {l : List Cel} {M : Nat} (h : res = none) {n : Int} (hn : s = [40, 97] → n = 2) (hb : Below rb w w') : Red res w rb s l M (faultE n) w' := by subst h; exact ⟨⟨n, rfl, hn⟩, hb⟩
theorem Red.mk_yes {res : Option (Rx × Txt)} {t : Rx} {q : Txt} {w w' : World} {rb : Nat} {s : Txt} {l : List Cel} {M : Nat} (h : res = some (t, q)) (hr : Rd w' rb s q (l ++ post t)) (hm : (l ++ post t).length + 1 + 2 * q.length ≤ M) (hb : Below rb w w') : Red res w rb s l M (.returned (.tuple #[])) w' := by subst h; exact ⟨⟨rfl, hr, hm⟩, hb⟩

set_option maxRecDepth 20000 in
set_option maxHeartbeats 4000000 in
theorem pieceC {n : Nat} (H : RowsOK n) {w : World} {rb : Nat} {s q : Txt} {l : List Cel} {M : Nat} (h : Rd w rb s q l) (hs : s.length ≤ 200) (hn : q.length ≤ n) (hM : l.length + 2 * q.length ≤ M) (hM1 : M ≤ 1000) :
    Calls Tryz.prog 94 #[.pointer (some ⟨rb, 0, none⟩)] w (Red (pieceP q) w rb s l M) := by
  have GA := hid (atomC H h hs hn hM hM1)
  unfold pieceP
  cases e1 : atomP q with
  | none =>
    rw [e1] at GA
    show Calls _ _ _ _ (Red none w rb s l M)
    clear h e1
    go_enter Tryz.func94, Tryz.ntmps94
    go_wp2_with (go_at_call 99; refine GA.out.mono ?_; intro e w1 hw1; obtain ⟨⟨n1, he1, hn1⟩, hb1⟩ := hw1.no; subst he1)
    exact ⟨rfl, ⟨_, rfl, hn1⟩, hb1⟩
  | some x =>
    obtain ⟨t, r⟩ := x
    rw [e1] at GA
    show Calls _ _ _ _ (Red (some (starsF t r)) w rb s l M)
    obtain ⟨R, hR⟩ : ∃ R, Hid (starsF t r = R) := ⟨_, hid rfl⟩
    rw [hR.out]
    clear h e1
    go_enter Tryz.func94, Tryz.ntmps94
    go_wp2_with (go_at_call 99; refine GA.out.mono ?_; intro e w1 hw1; obtain ⟨he1, hr1, hm1, hb1⟩ := hw1.yes; subst he1; have hr1 := hid hr1; have hm1 := hid hm1)
    go_loopw [] (fun wr => ∃ t' q', Hid (Rd wr rb s q' (l ++ post t')) ∧ Hid (starsF t' q' = R) ∧ Hid ((l ++ post t').length + 1 + 2 * q'.length ≤ M) ∧ Below rb w wr) (fun wr => plcN wr rb s.length)
    case atStart => exact ⟨t, r, hr1, hR, hm1, hb1⟩
    case round =>
      obtain ⟨t', q', hrd, hst, hmm, hbw⟩ := hrel
      have hlen : (l ++ post t').length ≤ 1000 := by have := hmm.out; omega
      have hmu := hid hrd.out.left
      clear hR hr1 hm1 GA
      by_cases c1 : q'.head? = some 42
      · obtain ⟨r', rfl⟩ := head_is c1
        have G1 := hid (takeY hrd.out hs)
        rw [show ((42 : UInt8).toNat : Int) = 42 from rfl] at G1
        have G2 := hid (fun u (hu : Rd u rb s r' (l ++ post t')) => putC hu (by omega) 5 (by decide) (by decide))
        have hst' : Hid (starsF (.star t') r' = R) := hid (by rw [← hst.out]; simp [starsF])
        clear c1 hlen
        go_wp2_with (first
          | (go_at_call_of 83 (Value.int .u8 42); refine G1.out.mono ?_; rintro e w2 ⟨rfl, hr2, hb2⟩; have hr2 := hid hr2)
          | (go_at_call 84; refine (G2.out _ hr2.out).mono ?_; rintro e w3 ⟨rfl, hr3, hb3⟩; have hr3 := hid hr3))
        have hr4 : Rd w3 rb s r' (l ++ post (.star t')) := by rw [show l ++ post (.star t') = (l ++ post t') ++ [⟨5, noneB⟩] by simp [post]]; exact hr3.out
        go_roundw
        case rel =>
          refine ⟨.star t', r', hid hr4, hst', hid ?_, (hbw.trans hb2).trans hb3⟩
          have := hmm.out
          simp [post] at this ⊢
          omega
        case measure =>
          rw [hmu.out, hr4.left]
          simp
      have n1 : (q'.head? == some 42) = false := by simpa using c1
      have N1 := hid (fun u (hu : Rd u rb s q' (l ++ post t')) => takeN hu hs 42 n1)
      rw [show ((42 : UInt8).toNat : Int) = 42 from rfl] at N1
      by_cases c2 : q'.head? = some 43
      · obtain ⟨r', rfl⟩ := head_is c2
        have G1 := hid (fun u (hu : Rd u rb s (43 :: r') (l ++ post t')) => takeY hu hs)
        rw [show ((43 : UInt8).toNat : Int) = 43 from rfl] at G1
        have G2 := hid (fun u (hu : Rd u rb s r' (l ++ post t')) => putC hu (by omega) 6 (by decide) (by decide))
        have hst' : Hid (starsF (.plus t') r' = R) := hid (by rw [← hst.out]; simp [starsF])
        clear c1 c2 hlen n1
        go_wp2_with (first
          | (go_at_call_of 83 (Value.int .u8 42); refine (N1.out _ hrd.out).mono ?_; rintro e w1' ⟨rfl, hr1, hb1'⟩; have hr1 := hid hr1)
          | (go_at_call_of 83 (Value.int .u8 43); refine (G1.out _ hr1.out).mono ?_; rintro e w2 ⟨rfl, hr2, hb2⟩; have hr2 := hid hr2)
          | (go_at_call 84; refine (G2.out _ hr2.out).mono ?_; rintro e w3 ⟨rfl, hr3, hb3⟩; have hr3 := hid hr3))
        have hr4 : Rd w3 rb s r' (l ++ post (.plus t')) := by rw [show l ++ post (.plus t') = (l ++ post t') ++ [⟨6, noneB⟩] by simp [post]]; exact hr3.out
        go_roundw
        case rel =>
          refine ⟨.plus t', r', hid hr4, hst', hid ?_, ((hbw.trans hb1').trans hb2).trans hb3⟩
          have := hmm.out
          simp [post] at this ⊢
          omega
        case measure =>
          rw [hmu.out, hr4.left]
          simp
      have n2 : (q'.head? == some 43) = false := by simpa using c2
      have N2 := hid (fun u (hu : Rd u rb s q' (l ++ post t')) => takeN hu hs 43 n2)
      rw [show ((43 : UInt8).toNat : Int) = 43 from rfl] at N2
      by_cases c3 : q'.head? = some 63
      · obtain ⟨r', rfl⟩ := head_is c3
        have G1 := hid (fun u (hu : Rd u rb s (63 :: r') (l ++ post t')) => takeY hu hs)
        rw [show ((63 : UInt8).toNat : Int) = 63 from rfl] at G1
        have G2 := hid (fun u (hu : Rd u rb s r' (l ++ post t')) => putC hu (by omega) 7 (by decide) (by decide))
        have hst' : Hid (starsF (.opt t') r' = R) := hid (by rw [← hst.out]; simp [starsF])
        clear c1 c2 c3 hlen n1 n2
        go_wp2_with (first
          | (go_at_call_of 83 (Value.int .u8 42); refine (N1.out _ hrd.out).mono ?_; rintro e w1' ⟨rfl, hr1, hb1'⟩; have hr1 := hid hr1)
          | (go_at_call_of 83 (Value.int .u8 43); refine (N2.out _ hr1.out).mono ?_; rintro e w2' ⟨rfl, hr2', hb2'⟩; have hr2' := hid hr2')
          | (go_at_call_of 83 (Value.int .u8 63); refine (G1.out _ hr2'.out).mono ?_; rintro e w2 ⟨rfl, hr2, hb2⟩; have hr2 := hid hr2)
          | (go_at_call 84; refine (G2.out _ hr2.out).mono ?_; rintro e w3 ⟨rfl, hr3, hb3⟩; have hr3 := hid hr3))
        have hr4 : Rd w3 rb s r' (l ++ post (.opt t')) := by rw [show l ++ post (.opt t') = (l ++ post t') ++ [⟨7, noneB⟩] by simp [post]]; exact hr3.out
        go_roundw
        case rel =>
          refine ⟨.opt t', r', hid hr4, hst', hid ?_, (((hbw.trans hb1').trans hb2').trans hb2).trans hb3⟩
          have := hmm.out
          simp [post] at this ⊢
          omega
        case measure =>
          rw [hmu.out, hr4.left]
          simp
      have n3 : (q'.head? == some 63) = false := by simpa using c3
      have N3 := hid (fun u (hu : Rd u rb s q' (l ++ post t')) => takeN hu hs 63 n3)
      rw [show ((63 : UInt8).toNat : Int) = 63 from rfl] at N3
      have hst' : Hid (R = (t', q')) := hid (by
        rw [← hst.out]
        cases q' with
        | nil => rfl
        | cons c r => rw [starsF, if_neg (fun e => c1 (by rw [e]; rfl)), if_neg (fun e => c2 (by rw [e]; rfl)), if_neg (fun e => c3 (by rw [e]; rfl))])
      clear c1 c2 c3 hlen n1 n2 n3
      go_wp2_with (first
        | (go_at_call_of 83 (Value.int .u8 42); refine (N1.out _ hrd.out).mono ?_; rintro e w1' ⟨rfl, hr1, hb1'⟩; have hr1 := hid hr1)
        | (go_at_call_of 83 (Value.int .u8 43); refine (N2.out _ hr1.out).mono ?_; rintro e w2' ⟨rfl, hr2', hb2'⟩; have hr2' := hid hr2')
        | (go_at_call_of 83 (Value.int .u8 63); refine (N3.out _ hr2'.out).mono ?_; rintro e w2 ⟨rfl, hr2, hb2⟩; have hr2 := hid hr2))
      first | go_end0 | refine bodyPost_ret (results_none rfl _ _ _) rfl ?_
      exact Red.mk_yes (by rw [hst'.out]) hr2.out hmm.out (((hbw.trans hb1').trans hb2').trans hb2)

end Go.Proofs.YtonlcnmlklaicaaGreatDoor
namespace Go.Proofs.YtonlcnmlklaicaaGreatDoor
open Go.RowKit

set_option maxRecDepth 20000 in
theorem rowEndsR {w : World} {rb : Nat} {s q : Txt} {l : List Cel} (h : Rd w rb s q l) (hs : s.length ≤ 200) :
    Calls Tryz.prog 95 #[.pointer (some ⟨rb, 0, none⟩)] w fun e w' => e = .returned (.bool (rowEnd q)) ∧ Rd w' rb s q l ∧ Below rb w w' := by
  have hlt := h.lt
  have h' := h
  obtain ⟨v, h1, h2, h3⟩ := h
  exact (rowEndsC h1 hs).mono fun e w' hh => ⟨hh.1, h'.keep hh.2, low hlt hh.2⟩
theorem pieceP_lt {q r : Txt} {t : Rx} (h : pieceP q = some (t, r)) : r.length < q.length := by
  unfold pieceP at h
  cases e : atomP q with
  | none => rw [e] at h; cases h
  | some x =>
    obtain ⟨t', q'⟩ := x
    have h1 := atomP_lt e
    have h2 := stars_le q' t'
    rw [e] at h
    injection h with h
    rw [h] at h2
    simp at h2
    omega

set_option maxRecDepth 20000 in
set_option maxHeartbeats 4000000 in
theorem rowC {n : Nat} (H : RowsOK n) {w : World} {rb : Nat} {s q : Txt} {l : List Cel} {M : Nat} (h : Rd w rb s q l) (hs : s.length ≤ 200) (hn : q.length ≤ n) (hM : l.length + 2 * q.length ≤ M) (hM1 : M ≤ 1000) :
    Calls Tryz.prog 82 #[.pointer (some ⟨rb, 0, none⟩)] w (Red (rowP q) w rb s l M) := by
  have GA := hid (pieceC H h hs hn hM hM1)
  rw [rowP_piece]
  cases e1 : pieceP q with
  | none =>
    rw [e1] at GA
    show Calls _ _ _ _ (Red none w rb s l M)
    clear h e1
    go_enter Tryz.func82, Tryz.ntmps82
    go_wp2_with (go_at_call 94; refine GA.out.mono ?_; intro e w1 hw1; obtain ⟨⟨n1, he1, hn1⟩, hb1⟩ := hw1.no; subst he1)
    exact ⟨rfl, ⟨_, rfl, hn1⟩, hb1⟩
  | some x =>
    obtain ⟨t, r⟩ := x
    have hlt := pieceP_lt e1
    rw [e1] at GA
    show Calls _ _ _ _ (Red (moreP t r) w rb s l M)
    obtain ⟨R, hR⟩ : ∃ R, Hid (moreP t r = R) := ⟨_, hid rfl⟩
    rw [hR.out]
    clear h e1
    go_enter Tryz.func82, Tryz.ntmps82
    go_wp2_with (go_at_call 94; refine GA.out.mono ?_; intro e w1 hw1; obtain ⟨he1, hr1, hm1, hb1⟩ := hw1.yes; subst he1; have hr1 := hid hr1; have hm1 := hid hm1)
    go_loopw [] (fun wr => ∃ a q', Hid (Rd wr rb s q' (l ++ post a)) ∧ Hid (moreP a q' = R) ∧ Hid ((l ++ post a).length + 1 + 2 * q'.length ≤ M) ∧ q'.length ≤ n ∧ Below rb w wr) (fun wr => plcN wr rb s.length)
    case atStart => exact ⟨t, r, hr1, hR, hm1, by omega, hb1⟩
    case round =>
      obtain ⟨a, q', hrd, hst, hmm, hnq, hbw⟩ := hrel
      have hmu := hid hrd.out.left
      clear hR hr1 hm1 GA
      have GE := hid (rowEndsR hrd.out hs)
      have hst' := hst.out
      rw [moreP_piece] at hst'
      cases hre : rowEnd q' with
      | true =>
        rw [hre] at GE hst'
        have hst2 : Hid (R = some (a, q')) := hid (hst'.symm)
        clear hst' hre hst
        go_wp2_with (go_at_call 95; refine GE.out.mono ?_; rintro e w2 ⟨rfl, hr2, hb2⟩; have hr2 := hid hr2)
        first | go_end0 | refine bodyPost_ret (results_none rfl _ _ _) rfl ?_
        exact Red.mk_yes hst2.out hr2.out hmm.out (hbw.trans hb2)
      | false =>
        rw [hre] at GE hst'
        have hst1 : (match pieceP q' with
          | some (t, r) => moreP (.cat a t) r
          | none => none) = R := hst'
        have hmm' := hmm.out
        have GP := hid (fun u (hu : Rd u rb s q' (l ++ post a)) => pieceC H hu hs hnq (M := M - 1) (by omega) (by omega))
        clear hst' hre hst hmm'
        cases e2 : pieceP q' with
        | none =>
          rw [e2] at GP hst1
          have hst2 : Hid (R = none) := hid hst1.symm
          clear hst1 e2
          go_wp2_with (first
            | (go_at_call 95; refine GE.out.mono ?_; rintro e w2 ⟨rfl, hr2, hb2⟩; have hr2 := hid hr2)
            | (go_at_call 94; refine (GP.out _ hr2.out).mono ?_; intro e w3 hw3; obtain ⟨⟨n3, he3, hn3⟩, hb3⟩ := hw3.no; subst he3))
          exact ⟨rfl, Red.mk_no hst2.out hn3 ((hbw.trans hb2).trans hb3)⟩
        | some y =>
          obtain ⟨t2, r2⟩ := y
          have hlt2 := hid (pieceP_lt e2)
          rw [e2] at GP hst1
          have hst2 : Hid (moreP (.cat a t2) r2 = R) := hid hst1
          have G2 := hid (fun u (hu : Rd u rb s r2 ((l ++ post a) ++ post t2)) (hl : ((l ++ post a) ++ post t2).length ≤ 1000) => putC hu (by omega) 3 (by decide) (by decide))
          clear hst1 e2
          go_wp2_with (first
            | (go_at_call 95; refine GE.out.mono ?_; rintro e w2 ⟨rfl, hr2, hb2⟩; have hr2 := hid hr2)
            | (go_at_call 94; refine (GP.out _ hr2.out).mono ?_; intro e w3 hw3; obtain ⟨he3, hr3, hm3, hb3⟩ := hw3.yes; subst he3; have hr3 := hid hr3; have hm3' := hid (show (l ++ post a ++ post t2).length ≤ 1000 by omega); have hm3 := hid hm3)
            | (go_at_call 84; refine (G2.out _ hr3.out hm3'.out).mono ?_; rintro e w4 ⟨rfl, hr4, hb4⟩; have hr4 := hid hr4))
          have hr5 : Rd w4 rb s r2 (l ++ post (.cat a t2)) := by rw [show l ++ post (.cat a t2) = ((l ++ post a) ++ post t2) ++ [⟨3, noneB⟩] by simp [post]]; exact hr4.out
          go_roundw
          case rel =>
            have h1 := hm3.out
            have h2 := hlt2.out
            refine ⟨.cat a t2, r2, hid hr5, hst2, hid ?_, by omega, ((hbw.trans hb2).trans hb3).trans hb4⟩
            rw [show l ++ post (.cat a t2) = ((l ++ post a) ++ post t2) ++ [⟨3, noneB⟩] by simp [post], List.length_append]
            simp only [List.length_cons, List.length_nil]
            omega
          case measure =>
            rw [hmu.out, hr5.left]
            exact hlt2.out

set_option maxRecDepth 20000 in
set_option maxHeartbeats 4000000 in
theorem rowsN {n : Nat} (H : RowsOK n) {w : World} {rb : Nat} {s q : Txt} {l : List Cel} {M : Nat} (h : Rd w rb s q l) (hs : s.length ≤ 200) (hn : q.length ≤ n) (hM : l.length + 2 * q.length ≤ M) (hM1 : M ≤ 1000) :
    Calls Tryz.prog 64 #[.pointer (some ⟨rb, 0, none⟩)] w (Red (rowsP q) w rb s l M) := by
  have GA := hid (rowC H h hs hn hM hM1)
  rw [rowsP_eq]
  cases e1 : rowP q with
  | none =>
    rw [e1] at GA
    show Calls _ _ _ _ (Red none w rb s l M)
    clear h e1
    go_enter Tryz.func64, Tryz.ntmps64
    go_wp2_with (go_at_call 82; refine GA.out.mono ?_; intro e w1 hw1; obtain ⟨⟨n1, he1, hn1⟩, hb1⟩ := hw1.no; subst he1)
    exact ⟨rfl, ⟨_, rfl, hn1⟩, hb1⟩
  | some x =>
    obtain ⟨t, r⟩ := x
    have hlt := rowP_lt e1
    rw [e1] at GA
    show Calls _ _ _ _ (Red (orsP t r) w rb s l M)
    obtain ⟨R, hR⟩ : ∃ R, Hid (orsP t r = R) := ⟨_, hid rfl⟩
    rw [hR.out]
    clear h e1
    go_enter Tryz.func64, Tryz.ntmps64
    go_wp2_with (go_at_call 82; refine GA.out.mono ?_; intro e w1 hw1; obtain ⟨he1, hr1, hm1, hb1⟩ := hw1.yes; subst he1; have hr1 := hid hr1; have hm1 := hid hm1)
    go_loopw [] (fun wr => ∃ a q', Hid (Rd wr rb s q' (l ++ post a)) ∧ Hid (orsP a q' = R) ∧ Hid ((l ++ post a).length + 1 + 2 * q'.length ≤ M) ∧ q'.length ≤ n ∧ Below rb w wr) (fun wr => plcN wr rb s.length)
    case atStart => exact ⟨t, r, hr1, hR, hm1, by omega, hb1⟩
    case round =>
      obtain ⟨a, q', hrd, hst, hmm, hnq, hbw⟩ := hrel
      have hmu := hid hrd.out.left
      clear hR hr1 hm1 GA
      by_cases c1 : q'.head? = some 124
      · obtain ⟨q2, rfl⟩ := head_is c1
        have GE := hid (takeY hrd.out hs)
        rw [show ((124 : UInt8).toNat : Int) = 124 from rfl] at GE
        have hst' := hst.out
        rw [orsP_eq] at hst'
        have hst1 : (match rowP q2 with
          | some (t, q) => orsP (.or a t) q
          | none => none) = R := hst'
        have hmm' := hmm.out
        simp only [List.length_cons] at hmm' hnq
        have GP := hid (fun u (hu : Rd u rb s q2 (l ++ post a)) => rowC H hu hs (by omega) (M := M - 1) (by omega) (by omega))
        clear hst' hst c1 hmm'
        cases e2 : rowP q2 with
        | none =>
          rw [e2] at GP hst1
          have hst2 : Hid (R = none) := hid hst1.symm
          clear hst1 e2
          go_wp2_with (first
            | (go_at_call 83; refine GE.out.mono ?_; rintro e w2 ⟨rfl, hr2, hb2⟩; have hr2 := hid hr2)
            | (go_at_call 82; refine (GP.out _ hr2.out).mono ?_; intro e w3 hw3; obtain ⟨⟨n3, he3, hn3⟩, hb3⟩ := hw3.no; subst he3))
          exact ⟨rfl, Red.mk_no hst2.out hn3 ((hbw.trans hb2).trans hb3)⟩
        | some y =>
          obtain ⟨t2, r2⟩ := y
          have hlt2 := hid (rowP_lt e2)
          rw [e2] at GP hst1
          have hst2 : Hid (orsP (.or a t2) r2 = R) := hid hst1
          have G2 := hid (fun u (hu : Rd u rb s r2 ((l ++ post a) ++ post t2)) (hl : ((l ++ post a) ++ post t2).length ≤ 1000) => putC hu (by omega) 4 (by decide) (by decide))
          clear hst1 e2
          go_wp2_with (first
            | (go_at_call 83; refine GE.out.mono ?_; rintro e w2 ⟨rfl, hr2, hb2⟩; have hr2 := hid hr2)
            | (go_at_call 82; refine (GP.out _ hr2.out).mono ?_; intro e w3 hw3; obtain ⟨he3, hr3, hm3, hb3⟩ := hw3.yes; subst he3; have hr3 := hid hr3; have hm3' := hid (show (l ++ post a ++ post t2).length ≤ 1000 by omega); have hm3 := hid hm3)
            | (go_at_call 84; refine (G2.out _ hr3.out hm3'.out).mono ?_; rintro e w4 ⟨rfl, hr4, hb4⟩; have hr4 := hid hr4))
          have hr5 : Rd w4 rb s r2 (l ++ post (.or a t2)) := by rw [show l ++ post (.or a t2) = ((l ++ post a) ++ post t2) ++ [⟨4, noneB⟩] by simp [post]]; exact hr4.out
          go_roundw
          case rel =>
            have h1 := hm3.out
            have h2 := hlt2.out
            refine ⟨.or a t2, r2, hid hr5, hst2, hid ?_, by omega, ((hbw.trans hb2).trans hb3).trans hb4⟩
            rw [show l ++ post (.or a t2) = ((l ++ post a) ++ post t2) ++ [⟨4, noneB⟩] by simp [post], List.length_append]
            simp only [List.length_cons, List.length_nil]
            omega
          case measure =>
            have h2 := hlt2.out
            rw [hmu.out, hr5.left]
            simp only [List.length_cons]
            omega
      · have hno : (q'.head? == some 124) = false := by simpa using c1
        have GE := hid (takeN hrd.out hs 124 hno)
        rw [show ((124 : UInt8).toNat : Int) = 124 from rfl] at GE
        have hst' := hst.out
        rw [orsP_eq, hno] at hst'
        have hst2 : Hid (R = some (a, q')) := hid hst'.symm
        clear hst' hst c1 hno
        go_wp2_with (go_at_call 83; refine GE.out.mono ?_; rintro e w2 ⟨rfl, hr2, hb2⟩; have hr2 := hid hr2)
        first | go_end0 | refine bodyPost_ret (results_none rfl _ _ _) rfl ?_
        exact Red.mk_yes hst2.out hr2.out hmm.out (hbw.trans hb2)

theorem rowsOK : ∀ n, RowsOK n
  | 0 => fun _ _ _ _ _ _ _ _ h _ _ => absurd h (Nat.not_lt_zero _)
  | n + 1 => fun _ _ _ _ _ _ h hs hn hM hM1 => rowsN (rowsOK n) h hs (Nat.le_of_lt_succ hn) hM hM1
set_option maxRecDepth 20000 in
theorem rowsC {w : World} {rb : Nat} {s q : Txt} {l : List Cel} {M : Nat} (h : Rd w rb s q l) (hs : s.length ≤ 200) (hM : l.length + 2 * q.length ≤ M) (hM1 : M ≤ 1000) :
    Calls Tryz.prog 64 #[.pointer (some ⟨rb, 0, none⟩)] w (Red (rowsP q) w rb s l M) := rowsOK (q.length + 1) w rb s q l M h hs (Nat.lt_succ_self _) hM hM1

end Go.Proofs.YtonlcnmlklaicaaGreatDoor
namespace Go.Proofs.YtonlcnmlklaicaaGreatDoor
open Go.RowKit

set_option maxRecDepth 20000 in
theorem catch_idle (p q r : Addr) (w : World) :
    CallsD Tryz.prog 63 #[.pointer (some p), .pointer (some q), .pointer (some r)] .returning w fun e u' w' => e = .returned (.tuple #[]) ∧ u' = .returning ∧ w' = w := by
  refine callsD_of_wpS Tryz.func63 rfl fun c₀ cs hu => ?_
  apply wpS_seq
  apply wpS_region
  simp [wpOpsS, go_sem, recoverD, hu, Tryz.ntmps63, Exit.thenS]
  refine wpS_of_wp ?_
  rw [show (#[Value.pointer (some p), .pointer (some q), .pointer (some r)] ++ ((Array.replicate 6 undef).setIfInBounds 1 Value.nilIface).setIfInBounds 0 Value.nilIface) = #[Value.pointer (some p), .pointer (some q), .pointer (some r), .nilIface, .nilIface, undef, undef, undef, undef] from rfl]
  go_wp2
  refine ⟨rfl, .returning, ?_, .tuple #[], by simp [results, Tryz.results63], rfl, rfl, rfl⟩
  cases c₀
  simp_all

/-- the world in which the rows are read -/
def readW (w : World) (s : Txt) : World := (((w.alloc (.cells #[.slice none 0 0] 48)).alloc (.cells #[.int .i64 0] 3)).alloc (.cells #[.int .i64 0] 29)).alloc (.cells #[.string (strT s), .int .i64 0, .slice none 0 0] 123)
theorem readW_below (w : World) (s : Txt) : Below w.heap.size w (readW w s) := bl_step (bl_step (bl_step (al' w _) (al' _ _)) (al' _ _)) (al' _ _)
theorem readW_rd (w : World) (s : Txt) : Rd (readW w s) (w.heap.size + 3) s s [] := by
  obtain ⟨h0, h1, h2, h3⟩ := four_blocks w (.cells #[.slice none 0 0] 48) (.cells #[.int .i64 0] 3) (.cells #[.int .i64 0] 29) (.cells #[.string (strT s), .int .i64 0, .slice none 0 0] 123)
  exact ⟨.slice none 0 0, ⟨[], rfl, h3⟩, World.ownsRow_nil _ _ _ _, fun c hc => by cases hc⟩

end Go.Proofs.YtonlcnmlklaicaaGreatDoor
