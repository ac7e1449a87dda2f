/- The contract of lines.At. -/
import Derived.Test.YtbemlnllhedbpaaRefs
namespace Go.Proofs.Ytbemlnllhedbpaa
open Go.RowKit

theorem Nums.drew {w : World} {v : Value} {l : List Int} (h : Nums w v l) : Nums w.drew v l := h

theorem lastPlaceC (s : ByteArray) (v : Value) (p : Nat) (w : World) (hs : s.size ≤ 1000000) (hp : p < (st s).length) (hN : Nums w v (st s)) :
    Calls Try.prog 22 #[.string s, v, .int .i64 ((p : Int) + 1)] w fun e w' => e = .returned (.int .i64 (lastP s p)) ∧ w' = w := by
  obtain ⟨a, cap, rfl, hN⟩ := hN
  have hl := st_len s
  by_cases h : p + 1 < (st s).length
  · have hne : ¬ ((p : Int) + 1 = ((st s).length : Int)) := by omega
    have hlt : (p : Int) + 1 < ((st s).length : Int) := by omega
    obtain ⟨b, o, rfl, hb, hc⟩ := hN (p + 1) h
    have bd := st_bd h
    have hP : lastP s p = (st s)[p + 1] - 1 := by unfold lastP; rw [List.getElem?_eq_getElem h]
    rw [hP]
    clear hP hN
    generalize (st s)[p + 1] = x at hc bd
    go_enter Try.func22, Try.ntmps22
    go_wp2
    go_ret
    exact ⟨rfl, rfl⟩
  · have he : (p : Int) + 1 = ((st s).length : Int) := by omega
    have hP : lastP s p = s.size := by unfold lastP; rw [List.getElem?_eq_none (by omega)]
    rw [hP]
    clear hP hN
    go_enter Try.func22, Try.ntmps22
    go_wp2
    go_ret
    exact ⟨rfl, rfl⟩

set_option maxHeartbeats 2000000 in
theorem atC (s : ByteArray) (l c : Int) (w : World) (hs : s.size ≤ 1000000) (hc0 : c ≤ 9223372036854775807) :
    Calls Try.prog 14 #[.string s, .int .i64 l, .int .i64 c] w fun e w' => e = .returned (.tuple #[.int .i64 (atN s l c), .int .i64 (atE s l c)]) ∧ Below w.heap.size w w' := by
  have hl := st_len s
  have GA : Hid (∀ u, Calls Try.prog 11 #[.string s] u fun e w' => ∃ v, e = .returned v ∧ Nums w' v (st s) ∧ Below u.heap.size u w') := fun u => startsC s u (by omega)
  by_cases hbad : l < 1 ∨ ((st s).length : Int) < l ∨ c < 1
  · have hv := atV_no hbad
    have hN : atN s l c = 0 := by unfold atN; rw [hv]
    have hE : atE s l c = 2 := by unfold atE; rw [hv]
    rw [hN, hE]
    clear hv hN hE
    by_cases h1 : l < 1
    · go_enter Try.func14, Try.ntmps14
      go_wp2_with (go_at_call 11; refine (GA.out _).mono ?_; rintro e w1 ⟨v, rfl, ⟨a, cap, rfl, hn⟩, hb1⟩; clear hn)
      go_ret2
      exact ⟨rfl, hb1⟩
    · by_cases h2 : ((st s).length : Int) < l
      · go_enter Try.func14, Try.ntmps14
        go_wp2_with (go_at_call 11; refine (GA.out _).mono ?_; rintro e w1 ⟨v, rfl, ⟨a, cap, rfl, hn⟩, hb1⟩; clear hn)
        go_ret2
        exact ⟨rfl, hb1⟩
      · have h3 : c < 1 := by omega
        go_enter Try.func14, Try.ntmps14
        go_wp2_with (go_at_call 11; refine (GA.out _).mono ?_; rintro e w1 ⟨v, rfl, ⟨a, cap, rfl, hn⟩, hb1⟩; clear hn)
        go_ret2
        exact ⟨rfl, hb1⟩
  · obtain ⟨p, hlp⟩ : ∃ p : Nat, l = (p : Int) + 1 := ⟨(l - 1).toNat, by omega⟩
    have hp : p < (st s).length := by omega
    have h1 : ¬ l < 1 := by omega
    have h2 : ¬ ((st s).length : Int) < l := by omega
    have h3 : ¬ c < 1 := by omega
    have hpz : (p : Int) < ((st s).length : Int) := by omega
    have hp0 : (0 : Int) ≤ (p : Int) := by omega
    have bd := st_bd hp
    have bl := lastP_bd hp
    have GP : Hid (∀ u v, Nums u v (st s) → Calls Try.prog 22 #[.string s, v, .int .i64 l] u fun e w' => e = .returned (.int .i64 (lastP s p)) ∧ w' = u) := fun u v h => by rw [hlp]; exact lastPlaceC s v p u hs hp h
    have hR : (lastP s p - (st s)[p] < c - 1 ∧ atN s l c = 0 ∧ atE s l c = 2) ∨ (¬ lastP s p - (st s)[p] < c - 1 ∧ atN s l c = (st s)[p] + c - 1 ∧ atE s l c = 0) := by
      rw [hlp]
      by_cases hf : lastP s p - (st s)[p] < c - 1
      · have hv := atV_far hp hf
        exact .inl ⟨hf, by unfold atN; rw [hv], by unfold atE; rw [hv]⟩
      · have hv := atV_near hp (by omega) hf
        exact .inr ⟨hf, by unfold atN; rw [hv]; show (((st s)[p] + c - 1).toNat : Int) = _; omega, by unfold atE; rw [hv]⟩
    obtain ⟨x, hx⟩ : ∃ x, (st s)[p] = x := ⟨_, rfl⟩
    generalize lastP s p = y at GP bl hR
    rw [hx] at bd bl hR
    have hw : IntKind.i64.wrap (l - 1) = (p : Int) := by rw [hlp, show (p : Int) + 1 - 1 = p by omega]; first | (rw [IntKind.wrap_i64]; omega) | (rw [Go.IntKind.wrap_i64]; omega) | go_num
    have hlb : (1 : Int) ≤ l ∧ l ≤ 2000000 := by omega
    clear hlp hbad
    rcases hR with ⟨hf, hN, hE⟩ | ⟨hf, hN, hE⟩
    · rw [hN, hE]
      clear hN hE
      go_enter Try.func14, Try.ntmps14
      go_wp2_with (first | (go_at_call 11; refine (GA.out _).mono ?_; rintro e w1 ⟨v, rfl, hn, hb1⟩; have hn' := hid hn; obtain ⟨a, cap, rfl, hq⟩ := hn; obtain ⟨b, o, rfl, hlt, hcell⟩ := hq p hp; rw [hx] at hcell; clear hq) | fail)
      go_region_held3 (fun w' => w'.cell? ⟨b, o + p, none⟩ = some (.int .i64 x)) (go_keep) ((first | (go_at_call 22; refine (GP.out _ _ hn'.out.drew).mono ?_; rintro e w2 ⟨rfl, hw2⟩; subst w2) | fail))
      all_goals go_wp2
      all_goals go_ret2
      all_goals exact ⟨rfl, hb1.drew⟩
    · rw [hN, hE]
      clear hN hE
      go_enter Try.func14, Try.ntmps14
      go_wp2_with (first | (go_at_call 11; refine (GA.out _).mono ?_; rintro e w1 ⟨v, rfl, hn, hb1⟩; have hn' := hid hn; obtain ⟨a, cap, rfl, hq⟩ := hn; obtain ⟨b, o, rfl, hlt, hcell⟩ := hq p hp; rw [hx] at hcell; clear hq) | fail)
      go_region_held3 (fun w' => w'.cell? ⟨b, o + p, none⟩ = some (.int .i64 x)) (go_keep) ((first | (go_at_call 22; refine (GP.out _ _ hn'.out.drew).mono ?_; rintro e w2 ⟨rfl, hw2⟩; subst w2) | fail))
      all_goals go_wp2
      all_goals go_ret2
      all_goals exact ⟨rfl, hb1.drew⟩

end Go.Proofs.Ytbemlnllhedbpaa
