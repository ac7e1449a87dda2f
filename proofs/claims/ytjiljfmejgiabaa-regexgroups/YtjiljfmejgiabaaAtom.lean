/- The reader: an atom, where rows of shorter texts are read. -/
import Derived.Test.YtjiljfmejgiabaaPut
namespace Go.Proofs.Ytjiljfmejgiabaa
open Go.RowKit

theorem Rd.lt {w : World} {rb : Nat} {s q : Txt} {l : List Cel} (h : Rd w rb s q l) : rb < w.heap.size := by
  obtain ⟨v, h, _, _⟩ := h
  obtain ⟨k, hb⟩ := h.blk
  exact blk_lt hb
theorem Rd.suf {w : World} {rb : Nat} {s q : Txt} {l : List Cel} (h : Rd w rb s q l) : ∃ pre, s = pre ++ q := by
  obtain ⟨v, ⟨pre, hp, _⟩, _, _⟩ := h
  exact ⟨pre, hp⟩
theorem Rd.place {w : World} {rb : Nat} {s q : Txt} {l : List Cel} (h : Rd w rb s q l) : w.cell? ⟨rb, 1, none⟩ = some (.int .i64 (plc s q)) := by
  obtain ⟨v, h, _, _⟩ := h
  exact h.place
theorem Rd.left {w : World} {rb : Nat} {s q : Txt} {l : List Cel} (h : Rd w rb s q l) : plcN w rb s.length = q.length := by
  obtain ⟨v, h, _, _⟩ := h
  exact h.left
theorem low {w w' : World} {rb : Nat} (hrb : rb < w.heap.size) (hb : Below w.heap.size w w') : Below rb w w' := hb.mono (Nat.le_of_lt hrb)
theorem takeN {w : World} {rb : Nat} {s q : Txt} {l : List Cel} (h : Rd w rb s q l) (hs : s.length ≤ 200) (c : UInt8) (hc : (q.head? == some c) = false) :
    Calls Try.prog 24 #[.pointer (some ⟨rb, 0, none⟩), .int .u8 (c.toNat : Int)] w fun e w' => e = .returned (.bool false) ∧ Rd w' rb s q l ∧ Below rb w w' := by
  have hlt := h.lt
  have h' := h
  obtain ⟨v, h1, h2, h3⟩ := h
  exact (takeNo h1 hs c hc).mono fun e w' hh => ⟨hh.1, h'.keep hh.2, low hlt hh.2⟩
theorem takeY {w : World} {rb : Nat} {s r : Txt} {c : UInt8} {l : List Cel} (h : Rd w rb s (c :: r) l) (hs : s.length ≤ 200) :
    Calls Try.prog 24 #[.pointer (some ⟨rb, 0, none⟩), .int .u8 (c.toNat : Int)] w fun e w' => e = .returned (.bool true) ∧ Rd w' rb s r l ∧ Below rb w w' := by
  have hlt := h.lt
  obtain ⟨v, h1, h2, h3⟩ := h
  exact (takeYes h1 hs).mono fun e w' hh => ⟨hh.1, ⟨v, hh.2.1, own_kept h1 h2 hh.2.2, h3⟩, kept_low hlt hh.2.2⟩

/-- what is read: its cells behind those that were there; or a fault -/
def Red (res : Option (Rx × Txt)) (w : World) (rb : Nat) (s : Txt) (l : List Cel) (M : Nat) : Ending → World → Prop := fun e w' =>
  (match res with
    | some (t, q) => e = .returned (.tuple #[]) ∧ Rd w' rb s q (l ++ post t) ∧ (l ++ post t).length + 1 + 2 * q.length ≤ M
    | none => ∃ n, e = faultE n ∧ (s = [40, 97] → n = 2)) ∧ Below rb w w'
theorem Red.yes {t : Rx} {q : Txt} {w w' : World} {rb : Nat} {s : Txt} {l : List Cel} {M : Nat} {e : Ending} (h : Red (some (t, q)) w rb s l M e w') : e = .returned (.tuple #[]) ∧ Rd w' rb s q (l ++ post t) ∧ (l ++ post t).length + 1 + 2 * q.length ≤ M ∧ Below rb w w' := ⟨h.1.1, h.1.2.1, h.1.2.2, h.2⟩
theorem Red.no {w w' : World} {rb : Nat} {s : Txt} {l : List Cel} {M : Nat} {e : Ending} (h : Red none w rb s l M e w') : (∃ n, e = faultE n ∧ (s = [40, 97] → n = 2)) ∧ Below rb w w' := h
/-- rows of texts shorter than n are read -/
def RowsOK (n : Nat) : Prop := ∀ (w : World) (rb : Nat) (s q : Txt) (l : List Cel) (M : Nat), Rd w rb s q l → s.length ≤ 200 → q.length < n → l.length + 2 * q.length ≤ M → M ≤ 1000 →
  Calls Try.prog 22 #[.pointer (some ⟨rb, 0, none⟩)] w (Red (rowsP q) w rb s l M)
theorem suf2 {pre q : Txt} (h : ([40, 97] : Txt) = pre ++ q) : q = [40, 97] ∨ q = [97] ∨ q = [] := by
  match pre, h with
  | [], h => exact Or.inl h.symm
  | [a], h => injection h with _ h; exact Or.inr (Or.inl h.symm)
  | [a, b], h => injection h with _ h; injection h with _ h; exact Or.inr (Or.inr h.symm)
  | a :: b :: c :: r, h => injection h with _ h; injection h with _ h; cases h

/-- behind a parenthesis -/
def groupP (r : Txt) : Option (Rx × Txt) :=
  if r.head? == some 41 then some (.eps, r.tail) else
  match rowsP r with
  | some (t, q) => if q.head? == some 41 then some (t, q.tail) else none
  | none => none
theorem head_is {q : Txt} {c : UInt8} (h : q.head? = some c) : ∃ r, q = c :: r := by
  cases q with
  | nil => cases h
  | cons d t => injection h with h; subst h; exact ⟨t, rfl⟩

set_option maxHeartbeats 2000000 in
theorem groupC {n : Nat} (H : RowsOK n) {w : World} {rb : Nat} {s r : Txt} {l : List Cel} {M : Nat} (h : Rd w rb s r l) (hs : s.length ≤ 200) (hn : r.length < n) (hM : l.length + 2 * r.length + 2 ≤ M) (hM1 : M ≤ 1000) (hfst : s = [40, 97] → r = [97]) :
    Calls Try.prog 30 #[.pointer (some ⟨rb, 0, none⟩)] w (Red (groupP r) w rb s l M) := by
  by_cases h41 : r.head? = some 41
  · obtain ⟨r', rfl⟩ := head_is h41
    have G1 := hid (takeY h hs)
    rw [show ((41 : UInt8).toNat : Int) = 41 from rfl] at G1
    have G2 := hid (fun u (hu : Rd u rb s r' l) => putC hu (by simp at hM; omega) 2 (by decide) (by decide))
    rw [show groupP (41 :: r') = some (.eps, r') from rfl]
    clear h h41
    go_enter Try.func30, Try.ntmps30
    go_wp2_with (first
      | (go_at_call 24; refine G1.out.mono ?_; rintro e w1 ⟨rfl, hr1, hb1⟩; have hr1 := hid hr1)
      | (go_at_call 25; refine (G2.out _ hr1.out).mono ?_; rintro e w2 ⟨rfl, hr2, hb2⟩; have hr2 := hid hr2))
    first | go_end0 | refine bodyPost_ret (results_none rfl _ _ _) rfl ?_
    refine ⟨⟨rfl, hr2.out, ?_⟩, hb1.trans hb2⟩
    simp at hM ⊢
    simp [post]
    omega
  · have hno : (r.head? == some 41) = false := by simpa using h41
    have G1 := hid (takeN h hs 41 hno)
    rw [show ((41 : UInt8).toNat : Int) = 41 from rfl] at G1
    have G2 := hid (fun u (hu : Rd u rb s r l) => H u rb s r l (M - 2) hu hs hn (by omega) (by omega))
    have eg : groupP r = match rowsP r with
      | some (t, q) => if q.head? == some 41 then some (t, q.tail) else none
      | none => none := by unfold groupP; rw [hno]; rfl
    rw [eg]
    cases e1 : rowsP r with
    | none =>
      rw [e1] at G2
      show Calls _ _ _ _ (Red none w rb s l M)
      clear h h41 hno eg e1
      go_enter Try.func30, Try.ntmps30
      go_wp2_with (first
        | (go_at_call 24; refine G1.out.mono ?_; rintro e w1 ⟨rfl, hr1, hb1⟩; have hr1 := hid hr1)
        | (go_at_call 22; refine (G2.out _ hr1.out).mono ?_; intro e w2 hw2; obtain ⟨⟨n2, he2, hn2⟩, hb2⟩ := hw2.no; subst he2))
      exact ⟨rfl, ⟨_, rfl, hn2⟩, hb1.trans hb2⟩
    | some x =>
      obtain ⟨t, q⟩ := x
      rw [e1] at G2
      show Calls _ _ _ _ (Red (if q.head? == some 41 then some (t, q.tail) else none) w rb s l M)
      by_cases h2 : q.head? = some 41
      · obtain ⟨q', rfl⟩ := head_is h2
        have G3 := hid (fun u (hu : Rd u rb s (41 :: q') (l ++ post t)) => takeY hu hs)
        rw [show ((41 : UInt8).toNat : Int) = 41 from rfl] at G3
        show Calls _ _ _ _ (Red (some (t, q')) w rb s l M)
        clear h h41 hno eg e1 h2
        go_enter Try.func30, Try.ntmps30
        go_wp2_with (first
          | (go_at_call 24; refine (G3.out _ hr2.out).mono ?_; rintro e w3 ⟨rfl, hr3, hb3⟩; have hr3 := hid hr3)
          | (go_at_call 24; refine G1.out.mono ?_; rintro e w1 ⟨rfl, hr1, hb1⟩; have hr1 := hid hr1)
          | (go_at_call 22; refine (G2.out _ hr1.out).mono ?_; intro e w2 hw2; obtain ⟨he2, hr2, hm2, hb2⟩ := hw2.yes; subst he2; have hr2 := hid hr2; have hm2 := hid hm2))
        first | go_end0 | refine bodyPost_ret (results_none rfl _ _ _) rfl ?_
        refine ⟨⟨rfl, hr3.out, ?_⟩, (hb1.trans hb2).trans hb3⟩
        have := hm2.out
        simp at this ⊢
        omega
      · have hno2 : (q.head? == some 41) = false := by simpa using h2
        have G3 := hid (fun u (hu : Rd u rb s q (l ++ post t)) => takeN hu hs 41 hno2)
        rw [show ((41 : UInt8).toNat : Int) = 41 from rfl] at G3
        rw [hno2]
        have hpl : s = [40, 97] → plc s q = 2 := fun he => by
          have := hfst he
          subst this
          rw [show rowsP [97] = some (.set (spanB 97 97), []) from rfl] at e1
          injection e1 with e1
          injection e1 with _ e1
          subst e1
          subst he
          rfl
        show Calls _ _ _ _ (Red none w rb s l M)
        clear h h41 hno eg e1 h2
        have HP := hid (fun u (hu : Rd u rb s q (l ++ post t)) => hu.place)
        generalize plc s q = p at HP hpl
        go_enter Try.func30, Try.ntmps30
        go_wp2_with (first
          | (go_at_call 24; refine (G3.out _ hr2.out).mono ?_; rintro e w3 ⟨rfl, hr3, hb3⟩; have hp3 := HP.out _ hr3)
          | (go_at_call 24; refine G1.out.mono ?_; rintro e w1 ⟨rfl, hr1, hb1⟩; have hr1 := hid hr1)
          | (go_at_call 22; refine (G2.out _ hr1.out).mono ?_; intro e w2 hw2; obtain ⟨he2, hr2, hm2, hb2⟩ := hw2.yes; subst he2; have hr2 := hid hr2; have hm2 := hid hm2))
        exact ⟨rfl, ⟨_, rfl, hpl⟩, (hb1.trans hb2).trans hb3⟩

end Go.Proofs.Ytjiljfmejgiabaa
