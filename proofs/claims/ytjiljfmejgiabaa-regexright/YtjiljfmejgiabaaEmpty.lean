/- The reference: Empty. -/
import Derived.Test.YtjiljfmejgiabaaFrom
namespace Go.Proofs.Ytjiljfmejgiabaa
open Go.RowKit

/-- the last cell of a rule that lies in a list -/
theorem root_at {l pre suf : List Cel} {t : Rx} (h : l = pre ++ (post t ++ suf)) : ∃ J : Nat, J + 1 = pre.length + (post t).length ∧ l[J]? = some (rootC t) := by
  have e : lain [t] = post t := by simp [lain]
  have hl := lain_last (l := l) (pre := pre) (suf := suf) (t := t) (st := []) (by rw [e]; exact h)
  have hn := lain_len t []
  rw [e] at hn
  exact ⟨_, by omega, hl.1⟩
theorem len_le {l pre suf : List Cel} {t : Rx} (h : l = pre ++ (post t ++ suf)) : pre.length + (post t).length ≤ l.length := by
  have := congrArg List.length h
  simp at this
  omega

set_option maxHeartbeats 4000000 in
theorem emptyC : ∀ (t : Rx) (v : Value) (l pre suf : List Cel) (E : Int) (w : World), Cels w v l → l.length ≤ 60 → l = pre ++ (post t ++ suf) → E + 1 = ((pre.length + (post t).length : Nat) : Int) →
    Calls Try.prog 18 #[v, .int .i64 E] w fun e w' => e = .returned (.bool t.null) ∧ w' = w
  | .set S, v, l, pre, suf, E, w, hA, hl, h, hE => by
    obtain ⟨J, hJ, hc⟩ := root_at h
    have hle := len_le h
    obtain ⟨av, cv, rfl, _, _, _, hAt⟩ := hA
    obtain ⟨hjl, b', o', rfl, d0, -, -, -, -⟩ := cel_at hAt hc
    obtain rfl : E = (J : Int) := by omega
    have hjz : (J : Int) < (l.length : Int) := by omega
    simp only [rootC] at d0
    clear hAt hc h hE hJ
    go_enter Try.func18, Try.ntmps18
    go_wp2
    go_ret
    exact ⟨rfl, rfl⟩
  | .eps, v, l, pre, suf, E, w, hA, hl, h, hE => by
    obtain ⟨J, hJ, hc⟩ := root_at h
    have hle := len_le h
    obtain ⟨av, cv, rfl, _, _, _, hAt⟩ := hA
    obtain ⟨hjl, b', o', rfl, d0, -, -, -, -⟩ := cel_at hAt hc
    obtain rfl : E = (J : Int) := by omega
    have hjz : (J : Int) < (l.length : Int) := by omega
    simp only [rootC] at d0
    clear hAt hc h hE hJ
    go_enter Try.func18, Try.ntmps18
    go_wp2
    go_ret
    exact ⟨rfl, rfl⟩
  | .star a, v, l, pre, suf, E, w, hA, hl, h, hE => by
    obtain ⟨J, hJ, hc⟩ := root_at h
    have hle := len_le h
    obtain ⟨av, cv, rfl, _, _, _, hAt⟩ := hA
    obtain ⟨hjl, b', o', rfl, d0, -, -, -, -⟩ := cel_at hAt hc
    obtain rfl : E = (J : Int) := by omega
    have hjz : (J : Int) < (l.length : Int) := by omega
    simp only [rootC] at d0
    clear hAt hc h hE hJ
    go_enter Try.func18, Try.ntmps18
    go_wp2
    go_ret
    exact ⟨rfl, rfl⟩
  | .opt a, v, l, pre, suf, E, w, hA, hl, h, hE => by
    obtain ⟨J, hJ, hc⟩ := root_at h
    have hle := len_le h
    obtain ⟨av, cv, rfl, _, _, _, hAt⟩ := hA
    obtain ⟨hjl, b', o', rfl, d0, -, -, -, -⟩ := cel_at hAt hc
    obtain rfl : E = (J : Int) := by omega
    have hjz : (J : Int) < (l.length : Int) := by omega
    simp only [rootC] at d0
    clear hAt hc h hE hJ
    go_enter Try.func18, Try.ntmps18
    go_wp2
    go_ret
    exact ⟨rfl, rfl⟩
  | .plus a, v, l, pre, suf, E, w, hA, hl, h, hE => by
    obtain ⟨J, hJ, hc⟩ := root_at h
    have hle := len_le h
    have hpa := post_pos a
    have hpl : (post (.plus a)).length = (post a).length + 1 := by simp [post]
    have G := hid (emptyC a v l pre (⟨6, noneB⟩ :: suf) (E - 1) w hA hl (by rw [h]; simp [post]) (by rw [hpl] at hE; omega))
    obtain ⟨av, cv, rfl, _, _, _, hAt⟩ := hA
    obtain ⟨hjl, b', o', rfl, d0, -, -, -, -⟩ := cel_at hAt hc
    obtain rfl : E = (J : Int) := by omega
    have hjz : (J : Int) < (l.length : Int) := by omega
    simp only [rootC] at d0
    rw [show (Rx.plus a).null = a.null from rfl]
    generalize a.null = na at G ⊢
    clear hAt hc h hE hJ
    go_enter Try.func18, Try.ntmps18
    go_wp2_with (go_at_call 18; refine G.out.mono ?_; rintro e u1 ⟨rfl, hu⟩; subst u1)
    go_ret
    exact ⟨rfl, rfl⟩
  | .cat a b, v, l, pre, suf, E, w, hA, hl, h, hE => by
    obtain ⟨J, hJ, hc⟩ := root_at h
    have hle := len_le h
    have hpa := post_pos a
    have hpb := post_pos b
    have hpl : (post (.cat a b)).length = (post a).length + ((post b).length + 1) := by simp [post]
    have hsp : l = (pre ++ post a) ++ (post b ++ (⟨3, noneB⟩ :: suf)) := by rw [h]; simp [post]
    have hlp : (pre ++ post a).length = pre.length + (post a).length := by simp
    have GB := hid (emptyC b v l (pre ++ post a) (⟨3, noneB⟩ :: suf) (E - 1) w hA hl hsp (by rw [hlp]; rw [hpl] at hE; omega))
    have GF := hid (fromC v l (pre ++ post a) (⟨3, noneB⟩ :: suf) b (E - 1) w hA hl hsp (by rw [hlp]; rw [hpl] at hE; omega))
    have GA := hid (emptyC a v l pre (post b ++ (⟨3, noneB⟩ :: suf)) ((((pre ++ post a).length : Nat) : Int) - 1) w hA hl (by rw [h]; simp [post]) (by rw [hlp]; omega))
    have hM0 : 0 < (pre ++ post a).length := by omega
    have hM1 : (pre ++ post a).length ≤ 60 := by omega
    obtain ⟨av, cv, rfl, _, _, _, hAt⟩ := hA
    obtain ⟨hjl, b', o', rfl, d0, -, -, -, -⟩ := cel_at hAt hc
    obtain rfl : E = (J : Int) := by omega
    have hjz : (J : Int) < (l.length : Int) := by omega
    simp only [rootC] at d0
    have hJ1 : 1 ≤ J := by omega
    rw [show (Rx.cat a b).null = (b.null && a.null) from rfl]
    generalize (pre ++ post a).length = M at GF GA hM0 hM1
    generalize a.null = na at GA ⊢
    clear hAt hc h hE hJ hsp hlp hpl
    cases hb : b.null with
    | true =>
      rw [hb] at GB
      go_enter Try.func18, Try.ntmps18
      go_wp2_with (first
        | (go_at_call 20; refine GF.out.mono ?_; rintro e u2 ⟨rfl, hu2⟩; subst u2; have hfl := hid True.intro)
        | (go_at_call 18; have hfl2 := hfl; refine GA.out.mono ?_; rintro e u3 ⟨rfl, hu3⟩; subst u3)
        | (go_at_call 18; refine GB.out.mono ?_; rintro e u1 ⟨rfl, hu⟩; subst u1))
      go_ret
      exact ⟨rfl, rfl⟩
    | false =>
      rw [hb] at GB
      go_enter Try.func18, Try.ntmps18
      go_wp2_with (go_at_call 18; refine GB.out.mono ?_; rintro e u1 ⟨rfl, hu⟩; subst u1)
      go_ret
      exact ⟨rfl, rfl⟩
  | .or a b, v, l, pre, suf, E, w, hA, hl, h, hE => by
    obtain ⟨J, hJ, hc⟩ := root_at h
    have hle := len_le h
    have hpa := post_pos a
    have hpb := post_pos b
    have hpl : (post (.or a b)).length = (post a).length + ((post b).length + 1) := by simp [post]
    have hsp : l = (pre ++ post a) ++ (post b ++ (⟨4, noneB⟩ :: suf)) := by rw [h]; simp [post]
    have hlp : (pre ++ post a).length = pre.length + (post a).length := by simp
    have GB := hid (emptyC b v l (pre ++ post a) (⟨4, noneB⟩ :: suf) (E - 1) w hA hl hsp (by rw [hlp]; rw [hpl] at hE; omega))
    have GF := hid (fromC v l (pre ++ post a) (⟨4, noneB⟩ :: suf) b (E - 1) w hA hl hsp (by rw [hlp]; rw [hpl] at hE; omega))
    have GA := hid (emptyC a v l pre (post b ++ (⟨4, noneB⟩ :: suf)) ((((pre ++ post a).length : Nat) : Int) - 1) w hA hl (by rw [h]; simp [post]) (by rw [hlp]; omega))
    have hM0 : 0 < (pre ++ post a).length := by omega
    have hM1 : (pre ++ post a).length ≤ 60 := by omega
    obtain ⟨av, cv, rfl, _, _, _, hAt⟩ := hA
    obtain ⟨hjl, b', o', rfl, d0, -, -, -, -⟩ := cel_at hAt hc
    obtain rfl : E = (J : Int) := by omega
    have hjz : (J : Int) < (l.length : Int) := by omega
    simp only [rootC] at d0
    have hJ1 : 1 ≤ J := by omega
    rw [show (Rx.or a b).null = (b.null || a.null) from rfl]
    generalize (pre ++ post a).length = M at GF GA hM0 hM1
    generalize a.null = na at GA ⊢
    clear hAt hc h hE hJ hsp hlp hpl
    cases hb : b.null with
    | false =>
      rw [hb] at GB
      go_enter Try.func18, Try.ntmps18
      go_wp2_with (first
        | (go_at_call 20; refine GF.out.mono ?_; rintro e u2 ⟨rfl, hu2⟩; subst u2; have hfl := hid True.intro)
        | (go_at_call 18; have hfl2 := hfl; refine GA.out.mono ?_; rintro e u3 ⟨rfl, hu3⟩; subst u3)
        | (go_at_call 18; refine GB.out.mono ?_; rintro e u1 ⟨rfl, hu⟩; subst u1))
      go_ret
      exact ⟨rfl, rfl⟩
    | true =>
      rw [hb] at GB
      go_enter Try.func18, Try.ntmps18
      go_wp2_with (go_at_call 18; refine GB.out.mono ?_; rintro e u1 ⟨rfl, hu⟩; subst u1)
      go_ret
      exact ⟨rfl, rfl⟩

end Go.Proofs.Ytjiljfmejgiabaa
