/- The contract of lines.Update. -/
import Derived.Test.YtbemlnllhedbpaaEdRef2
import Derived.Test.YtbemlnllhedbpaaWakes
namespace Go.Proofs.Ytbemlnllhedbpaa
open Go.RowKit

theorem Nums.nil {w : World} (a : Option Addr) (cap : Nat) : Nums w (.slice a 0 cap) [] := ⟨a, cap, rfl, fun _ h => absurd h (Nat.not_lt_zero _)⟩
theorem keep2 {w u v : World} {b o : Nat} {x : Value} (h1 : Below w.heap.size w u) (h2 : Below u.heap.size u v) (hc : w.cell? ⟨b, o, none⟩ = some x) : v.cell? ⟨b, o, none⟩ = some x := by
  have hb := World.block_lt_of_cell? _ _ hc
  exact (h2.cell (Nat.lt_of_lt_of_le hb h1.size)).trans ((h1.cell hb).trans hc)
theorem belowD {w : World} (n : Nat) : Below w.heap.size w (w.drewN n) := ⟨rfl, rfl, rfl, Nat.le_refl _, fun _ _ => rfl⟩

theorem equalC (va vb : Value) (la lb : List Int) (w : World) (ha : la.length ≤ 9223372036854775807) (hb : lb.length ≤ 9223372036854775807) (hA : Nums w va la) (hB : Nums w vb lb) :
    Calls Try.prog 23 #[va, vb] w fun e w' => e = .returned (.bool (decide (la = lb))) ∧ Below w.heap.size w w' := by
  obtain ⟨a1, c1, rfl, hA⟩ := hA
  obtain ⟨a2, c2, rfl, hB⟩ := hB
  by_cases hl : la.length = lb.length
  · cases la with
    | nil =>
      have h0 : lb = [] := List.eq_nil_of_length_eq_zero hl.symm
      subst h0
      exact (Try.slices_Equal_int_empty a1 a2 c1 0 c2 w (by decide)).mono fun e w' ⟨he, hw⟩ => ⟨he, by rw [hw]; exact Below.refl _ _⟩
    | cons x xs =>
      obtain ⟨b1, o1, rfl, _, _⟩ := hA 0 (Nat.succ_pos _)
      obtain ⟨b2, o2, rfl, _, _⟩ := hB 0 (by rw [← hl]; exact Nat.succ_pos _)
      have k1 : ∀ j, j < (x :: xs).length → w.cell? ⟨b1, o1 + j, none⟩ = some (.int .i64 ((x :: xs).getD j 0)) := fun j hj => by
        obtain ⟨b, o, e, _, hc⟩ := hA j hj
        cases e
        rw [hc, List.getD_eq_getElem?_getD, List.getElem?_eq_getElem hj]; rfl
      have k2 : ∀ j, j < lb.length → w.cell? ⟨b2, o2 + j, none⟩ = some (.int .i64 (lb.getD j 0)) := fun j hj => by
        obtain ⟨b, o, e, _, hc⟩ := hB j hj
        cases e
        rw [hc, List.getD_eq_getElem?_getD, List.getElem?_eq_getElem hj]; rfl
      refine (Try.slices_Equal_int b1 o1 (x :: xs).length c1 b2 o2 lb.length c2 (x :: xs) lb w (Nat.le_refl _) (Nat.le_refl _) ha hb k1 k2).mono fun e w' ⟨he, q, hw⟩ => ⟨?_, by rw [hw]; exact belowD q⟩
      rw [he, List.take_of_length_le (Nat.le_refl _), List.take_of_length_le (Nat.le_refl _)]
      congr 2
      rw [Bool.eq_iff_iff, decide_eq_true_iff]
      exact beq_iff_eq
  · refine (Try.slices_Equal_int_lens a1 a2 la.length c1 lb.length c2 w hl).mono fun e w' ⟨he, hw⟩ => ⟨?_, by rw [hw]; exact Below.refl _ _⟩
    rw [he, decide_eq_false (fun h => hl (by rw [h]))]

/-- what Update answers: the list, and its error -/
def upE (l : List Int) (s t : ByteArray) (a n : Int) : Int := if l = st s then errNo s.size a n t.size else 10
def upL (l : List Int) (s t : ByteArray) (a n : Int) : List Int := if upE l s t a n = 0 then st (appS s t a n) else []
def edV (a n : Int) (t : ByteArray) : Value := .agg #[.int .i64 a, .int .i64 n, .string t]

theorem appS_small {s t : ByteArray} {a n : Int} : (appS s t a n).size ≤ 4000 := by
  rcases errNo_cases s.size a n t.size with ⟨he, hf, hm⟩ | ⟨he, _⟩ | ⟨he, _⟩
  · obtain ⟨f1, f2, f3⟩ := fitsB_true hf
    rw [appS_ok he]
    unfold madeOf
    rw [ByteArray.size_append, ByteArray.size_append, ByteArray.size_extract, ByteArray.size_extract]
    omega
  · rw [appS_bad (by omega)]; exact Nat.zero_le _
  · rw [appS_bad (by omega)]; exact Nat.zero_le _

set_option maxHeartbeats 1000000 in
theorem updateC (v : Value) (l : List Int) (s t : ByteArray) (a n : Int) (w : World) (hs : s.size ≤ 1000000) (ht : t.size ≤ 1000000) (ha : a ≤ 9223372036854775807) (hl : l.length ≤ 9223372036854775807) (hN : Nums w v l) :
    Calls Try.prog 18 #[v, .string s, .agg #[.int .i64 a, .int .i64 n, .string t]] w fun e w' => ∃ v', e = .returned (.tuple #[v', .int .i64 (upE l s t a n)]) ∧ Nums w' v' (upL l s t a n) ∧ Below w.heap.size w w' := by
  have hst := st_len s
  have hal := hid (hN.keep (w' := w.alloc (.cells #[.int .i64 a, .int .i64 n, .string t] 38)) ((Below.refl _ _).alloc (Nat.le_refl _) _))
  have GA : Hid (∀ u, Calls Try.prog 11 #[.string s] u fun e w' => ∃ v, e = .returned v ∧ Nums w' v (st s) ∧ Below u.heap.size u w') := fun u => startsC s u (by omega)
  have GE := hid (fun va vb u => equalC va vb l (st s) u hl (by omega))
  have GP := hid (fun u => apply11 s t a n u hs ht ha)
  clear hN
  by_cases h : l = st s
  · have hE : upE l s t a n = errNo s.size a n t.size := if_pos h
    rw [decide_eq_true h] at GE
    by_cases he : errNo s.size a n t.size = 0
    · have hL : upL l s t a n = st (appS s t a n) := by unfold upL; rw [hE, if_pos he]
      have hv : appV s t a n = .tuple #[.string (appS s t a n), .int .i64 0] := by unfold appV; rw [he]
      rw [hL, hE, he]
      rw [hv] at GP
      have GB : Hid (∀ u, Calls Try.prog 11 #[.string (appS s t a n)] u fun e w' => ∃ v, e = .returned v ∧ Nums w' v (st (appS s t a n)) ∧ Below u.heap.size u w') := fun u => startsC _ u (by have := appS_small (s := s) (t := t) (a := a) (n := n); omega)
      clear hL hE he hv h
      generalize appS s t a n = r at GP GB ⊢
      go_enter Try.func18, Try.ntmps18
      go_wp2_with (first
        | (go_at_call 23; refine (GE.out _ _ _ (hal.out.keep hb1) hn1).mono ?_; rintro e w2 ⟨rfl, hb2⟩; have c0 : w2.cell? ⟨w.heap.size, 0, none⟩ = some (.int .i64 a) := (keep2 hb1 hb2 (by (simp))); have c1 : w2.cell? ⟨w.heap.size, 1, none⟩ = some (.int .i64 n) := (keep2 hb1 hb2 (by (simp))); have c2 : w2.cell? ⟨w.heap.size, 2, none⟩ = some (.string t) := (keep2 hb1 hb2 (by (simp))))
        | (go_at_call 24; refine (GP.out _).mono ?_; rintro e w3 ⟨rfl, hb3⟩)
        | (go_at_call_of 11 (Value.string r); refine (GB.out _).mono ?_; rintro e w4 ⟨v4, rfl, hn4, hb4⟩)
        | (go_at_call 11; refine (GA.out _).mono ?_; rintro e w1 ⟨v1, rfl, hn1, hb1⟩))
      go_ret2
      exact ⟨v4, rfl, hn4, bl_step (bl_step (bl_step (bl_step ((Below.refl _ _).alloc (Nat.le_refl _) _) hb1) hb2) hb3) hb4⟩
    · have hL : upL l s t a n = [] := by unfold upL; rw [hE, if_neg he]
      have hv : appV s t a n = .tuple #[.string ⟨#[]⟩, .int .i64 (errNo s.size a n t.size)] := by unfold appV; rw [appS_bad he]
      rw [hL, hE]
      rw [hv] at GP
      clear hL hE hv h
      generalize errNo s.size a n t.size = k at GP he ⊢
      have he' : (k != 0) = true := by simpa using he
      go_enter Try.func18, Try.ntmps18
      go_wp2_with (first
        | (go_at_call 23; refine (GE.out _ _ _ (hal.out.keep hb1) hn1).mono ?_; rintro e w2 ⟨rfl, hb2⟩; have c0 : w2.cell? ⟨w.heap.size, 0, none⟩ = some (.int .i64 a) := (keep2 hb1 hb2 (by (simp))); have c1 : w2.cell? ⟨w.heap.size, 1, none⟩ = some (.int .i64 n) := (keep2 hb1 hb2 (by (simp))); have c2 : w2.cell? ⟨w.heap.size, 2, none⟩ = some (.string t) := (keep2 hb1 hb2 (by (simp))))
        | (go_at_call 24; refine (GP.out _).mono ?_; rintro e w3 ⟨rfl, hb3⟩)
        | (go_at_call 11; refine (GA.out _).mono ?_; rintro e w1 ⟨v1, rfl, hn1, hb1⟩))
      go_ret2
      exact ⟨_, rfl, Nums.nil none 0, bl_step (bl_step (bl_step ((Below.refl _ _).alloc (Nat.le_refl _) _) hb1) hb2) hb3⟩
  · have hE : upE l s t a n = 10 := if_neg h
    have hL : upL l s t a n = [] := by unfold upL; rw [hE]; rfl
    rw [decide_eq_false h] at GE
    rw [hL, hE]
    clear hL hE h
    go_enter Try.func18, Try.ntmps18
    go_wp2_with (first
      | (go_at_call 23; refine (GE.out _ _ _ (hal.out.keep hb1) hn1).mono ?_; rintro e w2 ⟨rfl, hb2⟩)
      | (go_at_call 11; refine (GA.out _).mono ?_; rintro e w1 ⟨v1, rfl, hn1, hb1⟩))
    go_ret2
    exact ⟨_, rfl, Nums.nil none 0, bl_step (bl_step ((Below.refl _ _).alloc (Nat.le_refl _) _) hb1) hb2⟩

end Go.Proofs.Ytbemlnllhedbpaa
