/- Where operands end. The reference: Power, part, text, Show. -/
import Derived.Test.YtjiljfmejgiabaaDoorJ8
import Derived.Test.YtjiljfmejgiabaaDoorJ22
namespace Go.Proofs.YtjiljfmejgiabaaDoor
open Go.RowKit

/-- the last cell of a rule that lies in a list -/
theorem root_at {l pre suf : List Cel} {t : Rx} (h : l = pre ++ (post t ++ suf)) : ∃ J : Nat, J + 1 = pre.length + (post t).length ∧ l[J]? = some (rootC t) := by
  have e : lain [t] = post t := by simp [lain]
  have hl := lain_last (l := l) (pre := pre) (suf := suf) (t := t) (st := []) (by rw [e]; exact h)
  have hn := lain_len t []
  rw [e] at hn
  exact ⟨_, by omega, hl.1⟩
theorem len_le {l pre suf : List Cel} {t : Rx} (h : l = pre ++ (post t ++ suf)) : pre.length + (post t).length ≤ l.length := by
  have := congrArg List.length h
  simp at this
  omega

end Go.Proofs.YtjiljfmejgiabaaDoor
namespace Go.Proofs.YtjiljfmejgiabaaDoor
open Go.RowKit

theorem powerC (t : Rx) (v : Value) (l pre suf : List Cel) (E : Int) (w : World) (hA : Cels w v l) (h : l = pre ++ (post t ++ suf)) (hE : E + 1 = ((pre.length + (post t).length : Nat) : Int)) :
    Calls Tryd.prog 39 #[v, .int .i64 E] w fun e w' => e = .returned (.int .i64 ((power t : Nat) : Int)) ∧ w' = w := by
  obtain ⟨J, hJ, hc⟩ := root_at h
  have hle := len_le h
  obtain ⟨av, cv, rfl, _, _, _, hAt⟩ := hA
  obtain ⟨hjl, b', o', rfl, d0, -, -, -, -⟩ := cel_at hAt hc
  obtain rfl : E = (J : Int) := by omega
  have hjz : (J : Int) < (l.length : Int) := by omega
  clear hAt hc h hE hJ
  cases t
  all_goals
    simp only [rootC] at d0
    simp only [power]
    go_enter Tryd.func39, Tryd.ntmps39
    go_wp2
    go_ret
    exact ⟨rfl, rfl⟩

theorem runs_len (S : W4) : ∀ f b, (runsL S b f).length ≤ 9 * f
  | 0, b => by simp [runsL]
  | f + 1, b => by
    have ih := runs_len S f (b + runN S b 256 + 1)
    rw [runsL]
    split
    · have h1 : (runL b (runN S b 256)).length ≤ 9 := by
        unfold runL
        have x1 := alone_le b tellC
        have x2 := alone_le (b + runN S b 256 - 1) tellC
        rw [List.length_append, List.length_append]
        split <;> split <;> split <;> simp <;> omega
      rw [List.length_append]; omega
    · simp
theorem told_len (S : W4) : (toldL S).length ≤ 2400 := by
  unfold toldL
  split
  · have := alone_le (leastB S).toNat tellA; omega
  · split
    · simp
    · have := runs_len S 257 0
      simp
      omega
theorem par_len (p : Nat) (t : Rx) (s : Txt) : (par p t s).length ≤ s.length + 2 := by
  unfold par
  split <;> simp
theorem txt_len : ∀ t : Rx, (txt t).length ≤ 3000 * (post t).length
  | .set S => by have := told_len S; simp [txt, post]; omega
  | .eps => by simp [txt, post]
  | .cat a b => by
    have h1 := txt_len a; have h2 := txt_len b; have h3 := par_len 2 a (txt a); have h4 := par_len 3 b (txt b)
    simp [txt, post]; omega
  | .or a b => by
    have h1 := txt_len a; have h2 := txt_len b; have h3 := par_len 1 a (txt a); have h4 := par_len 2 b (txt b)
    simp [txt, post]; omega
  | .star a => by have h1 := txt_len a; have h3 := par_len 3 a (txt a); simp [txt, post]; omega
  | .plus a => by have h1 := txt_len a; have h3 := par_len 3 a (txt a); simp [txt, post]; omega
  | .opt a => by have h1 := txt_len a; have h3 := par_len 3 a (txt a); simp [txt, post]; omega

/-- part, out of text -/
theorem partOf (t : Rx) (v : Value) (l pre suf : List Cel) (E : Int) (p : Nat) (w : World) (hA : Cels w v l) (hl : l.length ≤ 60) (h : l = pre ++ (post t ++ suf)) (hE : E + 1 = ((pre.length + (post t).length : Nat) : Int)) (_hp : p ≤ 3)
    (GT : Calls Tryd.prog 17 #[v, .int .i64 E] w fun e w' => e = .returned (.string (strT (txt t))) ∧ Below w.heap.size w w') :
    Calls Tryd.prog 26 #[v, .int .i64 E, .int .i64 (p : Int)] w fun e w' => e = .returned (.string (strT (par p t (txt t)))) ∧ Below w.heap.size w w' := by
  have GT := hid GT
  have GP := hid (fun u (hb : Below w.heap.size w u) => powerC t v l pre suf E u (hA.keep hb) h hE)
  have hlen := txt_len t
  have hle := len_le h
  have hs := strT_size (txt t)
  have hpw : power t ≤ 3 := by cases t <;> simp [power]
  unfold par
  have e1 : strT (40 :: (txt t ++ [41])) = ⟨#[40]⟩ ++ strT (txt t) ++ ⟨#[41]⟩ := by
    rw [show (⟨#[40]⟩ : ByteArray) = strT [40] from rfl, show (⟨#[41]⟩ : ByteArray) = strT [41] from rfl, strT_app, strT_app]; rfl
  generalize txt t = s at GT hlen hs e1 ⊢
  generalize power t = q at GP hpw ⊢
  obtain ⟨av, cv, rfl, _⟩ := hA
  clear h hE
  by_cases hq : q < p
  · rw [if_pos hq, e1]
    have hqz : (q : Int) < (p : Int) := by omega
    have h40 : (⟨#[40]⟩ : ByteArray).size = 1 := rfl
    have h41 : (⟨#[41]⟩ : ByteArray).size = 1 := rfl
    have k1 := fun u => run_cat ⟨#[40]⟩ (strT s) u (by omega)
    have k2 := fun u => run_cat (⟨#[40]⟩ ++ strT s) ⟨#[41]⟩ u (by rw [ByteArray.size_append]; omega)
    clear e1
    go_enter Tryd.func26, Tryd.ntmps26
    go_wp2_with (first
      | (go_at_call 17; refine GT.out.mono ?_; rintro e w1 ⟨rfl, hb1⟩)
      | (go_at_call 39; refine (GP.out _ hb1).mono ?_; rintro e w2 ⟨rfl, hw2⟩; subst w2))
    go_ret
    exact ⟨rfl, hb1⟩
  · rw [if_neg hq]
    have hqz : ¬ (q : Int) < (p : Int) := by omega
    clear e1
    go_enter Tryd.func26, Tryd.ntmps26
    go_wp2_with (first
      | (go_at_call 17; refine GT.out.mono ?_; rintro e w1 ⟨rfl, hb1⟩)
      | (go_at_call 39; refine (GP.out _ hb1).mono ?_; rintro e w2 ⟨rfl, hw2⟩; subst w2))
    go_ret
    exact ⟨rfl, hb1⟩

set_option maxHeartbeats 4000000 in
theorem textC : ∀ (t : Rx) (v : Value) (l pre suf : List Cel) (E : Int) (w : World), Cels w v l → l.length ≤ 60 → l = pre ++ (post t ++ suf) → E + 1 = ((pre.length + (post t).length : Nat) : Int) →
    Calls Tryd.prog 17 #[v, .int .i64 E] w fun e w' => e = .returned (.string (strT (txt t))) ∧ Below w.heap.size w w'
  | .set S, v, l, pre, suf, E, w, hA, hl, h, hE => by
    obtain ⟨J, hJ, hc⟩ := root_at h
    have hle := len_le h
    obtain ⟨av, cv, rfl, _, _, hFl, hAt⟩ := hA
    have hcm := List.mem_of_getElem? hc
    have hcf := hFl _ hcm
    obtain ⟨hjl, b', o', rfl, d0, d1, d2, d3, d4⟩ := cel_at hAt hc
    obtain rfl : E = (J : Int) := by omega
    have hjz : (J : Int) < (l.length : Int) := by omega
    simp only [rootC] at d0 d1 d2 d3 d4
    obtain ⟨sa, sb, sc, sd⟩ := S
    have GT := hid (fun u => refTold sa sb sc sd u hcf.s)
    rw [show txt (Rx.set ⟨sa, sb, sc, sd⟩) = toldL ⟨sa, sb, sc, sd⟩ from rfl]
    generalize strT (toldL ⟨sa, sb, sc, sd⟩) = Z at GT ⊢
    simp only at d1 d2 d3 d4
    clear hAt hc h hE hJ hFl hcm hcf
    go_enter Tryd.func17, Tryd.ntmps17
    go_wp2_with (go_at_call 25; refine (GT.out _).mono ?_; rintro e w1 ⟨rfl, hb1⟩)
    go_ret
    exact ⟨rfl, hb1⟩
  | .eps, v, l, pre, suf, E, w, hA, hl, h, hE => by
    obtain ⟨J, hJ, hc⟩ := root_at h
    have hle := len_le h
    obtain ⟨av, cv, rfl, _, _, hFl, hAt⟩ := hA
    have hcm := List.mem_of_getElem? hc
    have hcf := hFl _ hcm
    obtain ⟨hjl, b', o', rfl, d0, d1, d2, d3, d4⟩ := cel_at hAt hc
    obtain rfl : E = (J : Int) := by omega
    have hjz : (J : Int) < (l.length : Int) := by omega
    simp only [rootC] at d0 d1 d2 d3 d4
    clear hAt hc h hE hJ hFl hcm hcf
    rw [show strT (txt Rx.eps) = ⟨#[40, 41]⟩ from rfl]
    go_enter Tryd.func17, Tryd.ntmps17
    go_wp2
    go_ret
    exact ⟨rfl, Below.refl _ _⟩
  | .star a, v, l, pre, suf, E, w, hA, hl, h, hE => by
    have hpa := post_pos a
    have hpl : (post (.star a)).length = (post a).length + 1 := by simp [post]
    have hsp : l = pre ++ (post a ++ (⟨5, noneB⟩ :: suf)) := by rw [h]; simp [post]
    have hE' : E - 1 + 1 = ((pre.length + (post a).length : Nat) : Int) := by rw [hpl] at hE; omega
    have GP := hid (partOf a v l pre (⟨5, noneB⟩ :: suf) (E - 1) 3 w hA hl hsp hE' (by omega) (textC a v l pre (⟨5, noneB⟩ :: suf) (E - 1) w hA hl hsp hE'))
    have hln := par_len 3 a (txt a)
    have hln2 := txt_len a
    have hle2 := len_le hsp
    rw [show txt (Rx.star a) = par 3 a (txt a) ++ [42] from rfl, ← strT_app, show strT [42] = ⟨#[42]⟩ from rfl]
    obtain ⟨J, hJ, hc⟩ := root_at h
    have hle := len_le h
    obtain ⟨av, cv, rfl, _, _, hFl, hAt⟩ := hA
    have hcm := List.mem_of_getElem? hc
    have hcf := hFl _ hcm
    obtain ⟨hjl, b', o', rfl, d0, d1, d2, d3, d4⟩ := cel_at hAt hc
    obtain rfl : E = (J : Int) := by omega
    have hjz : (J : Int) < (l.length : Int) := by omega
    simp only [rootC] at d0 d1 d2 d3 d4
    have hJ1 : 1 ≤ J := by rw [hpl] at hJ; omega
    clear hAt hc h hE hJ hFl hcm hcf hsp hE'
    have hs := strT_size (par 3 a (txt a))
    generalize par 3 a (txt a) = Z at GP hln hs ⊢
    have h1 : (⟨#[42]⟩ : ByteArray).size = 1 := rfl
    have k1 := fun u => run_cat (strT Z) ⟨#[42]⟩ u (by omega)
    go_enter Tryd.func17, Tryd.ntmps17
    go_wp2_with (go_at_call 26; refine GP.out.mono ?_; rintro e w1 ⟨rfl, hb1⟩)
    go_ret
    exact ⟨rfl, hb1⟩
  | .plus a, v, l, pre, suf, E, w, hA, hl, h, hE => by
    have hpa := post_pos a
    have hpl : (post (.plus a)).length = (post a).length + 1 := by simp [post]
    have hsp : l = pre ++ (post a ++ (⟨6, noneB⟩ :: suf)) := by rw [h]; simp [post]
    have hE' : E - 1 + 1 = ((pre.length + (post a).length : Nat) : Int) := by rw [hpl] at hE; omega
    have GP := hid (partOf a v l pre (⟨6, noneB⟩ :: suf) (E - 1) 3 w hA hl hsp hE' (by omega) (textC a v l pre (⟨6, noneB⟩ :: suf) (E - 1) w hA hl hsp hE'))
    have hln := par_len 3 a (txt a)
    have hln2 := txt_len a
    have hle2 := len_le hsp
    rw [show txt (Rx.plus a) = par 3 a (txt a) ++ [43] from rfl, ← strT_app, show strT [43] = ⟨#[43]⟩ from rfl]
    obtain ⟨J, hJ, hc⟩ := root_at h
    have hle := len_le h
    obtain ⟨av, cv, rfl, _, _, hFl, hAt⟩ := hA
    have hcm := List.mem_of_getElem? hc
    have hcf := hFl _ hcm
    obtain ⟨hjl, b', o', rfl, d0, d1, d2, d3, d4⟩ := cel_at hAt hc
    obtain rfl : E = (J : Int) := by omega
    have hjz : (J : Int) < (l.length : Int) := by omega
    simp only [rootC] at d0 d1 d2 d3 d4
    have hJ1 : 1 ≤ J := by rw [hpl] at hJ; omega
    clear hAt hc h hE hJ hFl hcm hcf hsp hE'
    have hs := strT_size (par 3 a (txt a))
    generalize par 3 a (txt a) = Z at GP hln hs ⊢
    have h1 : (⟨#[43]⟩ : ByteArray).size = 1 := rfl
    have k1 := fun u => run_cat (strT Z) ⟨#[43]⟩ u (by omega)
    go_enter Tryd.func17, Tryd.ntmps17
    go_wp2_with (go_at_call 26; refine GP.out.mono ?_; rintro e w1 ⟨rfl, hb1⟩)
    go_ret
    exact ⟨rfl, hb1⟩
  | .opt a, v, l, pre, suf, E, w, hA, hl, h, hE => by
    have hpa := post_pos a
    have hpl : (post (.opt a)).length = (post a).length + 1 := by simp [post]
    have hsp : l = pre ++ (post a ++ (⟨7, noneB⟩ :: suf)) := by rw [h]; simp [post]
    have hE' : E - 1 + 1 = ((pre.length + (post a).length : Nat) : Int) := by rw [hpl] at hE; omega
    have GP := hid (partOf a v l pre (⟨7, noneB⟩ :: suf) (E - 1) 3 w hA hl hsp hE' (by omega) (textC a v l pre (⟨7, noneB⟩ :: suf) (E - 1) w hA hl hsp hE'))
    have hln := par_len 3 a (txt a)
    have hln2 := txt_len a
    have hle2 := len_le hsp
    rw [show txt (Rx.opt a) = par 3 a (txt a) ++ [63] from rfl, ← strT_app, show strT [63] = ⟨#[63]⟩ from rfl]
    obtain ⟨J, hJ, hc⟩ := root_at h
    have hle := len_le h
    obtain ⟨av, cv, rfl, _, _, hFl, hAt⟩ := hA
    have hcm := List.mem_of_getElem? hc
    have hcf := hFl _ hcm
    obtain ⟨hjl, b', o', rfl, d0, d1, d2, d3, d4⟩ := cel_at hAt hc
    obtain rfl : E = (J : Int) := by omega
    have hjz : (J : Int) < (l.length : Int) := by omega
    simp only [rootC] at d0 d1 d2 d3 d4
    have hJ1 : 1 ≤ J := by rw [hpl] at hJ; omega
    clear hAt hc h hE hJ hFl hcm hcf hsp hE'
    have hs := strT_size (par 3 a (txt a))
    generalize par 3 a (txt a) = Z at GP hln hs ⊢
    have h1 : (⟨#[63]⟩ : ByteArray).size = 1 := rfl
    have k1 := fun u => run_cat (strT Z) ⟨#[63]⟩ u (by omega)
    go_enter Tryd.func17, Tryd.ntmps17
    go_wp2_with (go_at_call 26; refine GP.out.mono ?_; rintro e w1 ⟨rfl, hb1⟩)
    go_ret
    exact ⟨rfl, hb1⟩
  | .cat a b, v, l, pre, suf, E, w, hA, hl, h, hE => by
    have hpa := post_pos a
    have hpb := post_pos b
    have hpl : (post (.cat a b)).length = (post a).length + ((post b).length + 1) := by simp [post]
    have hsb : l = (pre ++ post a) ++ (post b ++ (⟨3, noneB⟩ :: suf)) := by rw [h]; simp [post]
    have hsa : l = pre ++ (post a ++ (post b ++ (⟨3, noneB⟩ :: suf))) := by rw [h]; simp [post]
    have hlp : (pre ++ post a).length = pre.length + (post a).length := by simp
    have hEb : E - 1 + 1 = (((pre ++ post a).length + (post b).length : Nat) : Int) := by rw [hlp]; rw [hpl] at hE; omega
    have hEa : (((pre ++ post a).length : Nat) : Int) - 1 + 1 = ((pre.length + (post a).length : Nat) : Int) := by rw [hlp]; omega
    have GF := hid (fromC v l (pre ++ post a) (⟨3, noneB⟩ :: suf) b (E - 1) w hA hl hsb hEb)
    have GX := hid (partOf a v l pre (post b ++ (⟨3, noneB⟩ :: suf)) ((((pre ++ post a).length : Nat) : Int) - 1) 2 w hA hl hsa hEa (by omega) (textC a v l pre (post b ++ (⟨3, noneB⟩ :: suf)) ((((pre ++ post a).length : Nat) : Int) - 1) w hA hl hsa hEa))
    have GY := hid (fun u (hb : Below w.heap.size w u) => partOf b v l (pre ++ post a) (⟨3, noneB⟩ :: suf) (E - 1) 3 u (hA.keep hb) hl hsb hEb (by omega) (textC b v l (pre ++ post a) (⟨3, noneB⟩ :: suf) (E - 1) u (hA.keep hb) hl hsb hEb))
    have hln := par_len 2 a (txt a)
    have hln2 := txt_len a
    have hln3 := par_len 3 b (txt b)
    have hln4 := txt_len b
    rw [show txt (Rx.cat a b) = par 2 a (txt a) ++ par 3 b (txt b) from rfl, ← strT_app]
    obtain ⟨J, hJ, hc⟩ := root_at h
    have hle := len_le h
    obtain ⟨av, cv, rfl, _, _, hFl, hAt⟩ := hA
    have hcm := List.mem_of_getElem? hc
    have hcf := hFl _ hcm
    obtain ⟨hjl, b', o', rfl, d0, d1, d2, d3, d4⟩ := cel_at hAt hc
    obtain rfl : E = (J : Int) := by omega
    have hjz : (J : Int) < (l.length : Int) := by omega
    simp only [rootC] at d0 d1 d2 d3 d4
    clear hAt hc h hE hFl hcm hcf hsa hsb hEa hEb
    have hs := strT_size (par 2 a (txt a))
    have hs2 := strT_size (par 3 b (txt b))
    have hM0 : 0 < (pre ++ post a).length := by omega
    have hM1 : (pre ++ post a).length ≤ 60 := by omega
    have hJ1 : 1 ≤ J := by omega
    generalize par 2 a (txt a) = X at GX hln hs ⊢
    generalize par 3 b (txt b) = Y at GY hln3 hs2 ⊢
    generalize (pre ++ post a).length = M at GF GX hM0 hM1 hlp
    have k1 := fun u => run_cat (strT X) (strT Y) u (by omega)
    clear hJ hlp
    go_enter Tryd.func17, Tryd.ntmps17
    go_wp2_with (first
      | (go_at_call 27; refine GF.out.mono ?_; rintro e w1 ⟨rfl, hw1⟩; subst w1)
      | (go_at_call 26; refine (GY.out w2 hb2).mono ?_; rintro e w3 ⟨rfl, hb3⟩)
      | (go_at_call 26; refine GX.out.mono ?_; rintro e w2 ⟨rfl, hb2⟩))
    go_ret
    exact ⟨rfl, bl_step hb2 hb3⟩
  | .or a b, v, l, pre, suf, E, w, hA, hl, h, hE => by
    have hpa := post_pos a
    have hpb := post_pos b
    have hpl : (post (.or a b)).length = (post a).length + ((post b).length + 1) := by simp [post]
    have hsb : l = (pre ++ post a) ++ (post b ++ (⟨4, noneB⟩ :: suf)) := by rw [h]; simp [post]
    have hsa : l = pre ++ (post a ++ (post b ++ (⟨4, noneB⟩ :: suf))) := by rw [h]; simp [post]
    have hlp : (pre ++ post a).length = pre.length + (post a).length := by simp
    have hEb : E - 1 + 1 = (((pre ++ post a).length + (post b).length : Nat) : Int) := by rw [hlp]; rw [hpl] at hE; omega
    have hEa : (((pre ++ post a).length : Nat) : Int) - 1 + 1 = ((pre.length + (post a).length : Nat) : Int) := by rw [hlp]; omega
    have GF := hid (fromC v l (pre ++ post a) (⟨4, noneB⟩ :: suf) b (E - 1) w hA hl hsb hEb)
    have GX := hid (partOf a v l pre (post b ++ (⟨4, noneB⟩ :: suf)) ((((pre ++ post a).length : Nat) : Int) - 1) 1 w hA hl hsa hEa (by omega) (textC a v l pre (post b ++ (⟨4, noneB⟩ :: suf)) ((((pre ++ post a).length : Nat) : Int) - 1) w hA hl hsa hEa))
    have GY := hid (fun u (hb : Below w.heap.size w u) => partOf b v l (pre ++ post a) (⟨4, noneB⟩ :: suf) (E - 1) 2 u (hA.keep hb) hl hsb hEb (by omega) (textC b v l (pre ++ post a) (⟨4, noneB⟩ :: suf) (E - 1) u (hA.keep hb) hl hsb hEb))
    have hln := par_len 1 a (txt a)
    have hln2 := txt_len a
    have hln3 := par_len 2 b (txt b)
    have hln4 := txt_len b
    have ef : strT (txt (Rx.or a b)) = strT (par 1 a (txt a)) ++ ⟨#[124]⟩ ++ strT (par 2 b (txt b)) := by
      rw [show (⟨#[124]⟩ : ByteArray) = strT [124] from rfl, strT_app, strT_app, List.append_assoc]; rfl
    rw [ef]
    clear ef
    obtain ⟨J, hJ, hc⟩ := root_at h
    have hle := len_le h
    obtain ⟨av, cv, rfl, _, _, hFl, hAt⟩ := hA
    have hcm := List.mem_of_getElem? hc
    have hcf := hFl _ hcm
    obtain ⟨hjl, b', o', rfl, d0, d1, d2, d3, d4⟩ := cel_at hAt hc
    obtain rfl : E = (J : Int) := by omega
    have hjz : (J : Int) < (l.length : Int) := by omega
    simp only [rootC] at d0 d1 d2 d3 d4
    clear hAt hc h hE hFl hcm hcf hsa hsb hEa hEb
    have hs := strT_size (par 1 a (txt a))
    have hs2 := strT_size (par 2 b (txt b))
    have hM0 : 0 < (pre ++ post a).length := by omega
    have hM1 : (pre ++ post a).length ≤ 60 := by omega
    have hJ1 : 1 ≤ J := by omega
    generalize par 1 a (txt a) = X at GX hln hs ⊢
    generalize par 2 b (txt b) = Y at GY hln3 hs2 ⊢
    generalize (pre ++ post a).length = M at GF GX hM0 hM1 hlp
    have h124 : (⟨#[124]⟩ : ByteArray).size = 1 := rfl
    have k1 := fun u => run_cat (strT X) ⟨#[124]⟩ u (by omega)
    have k2 := fun u => run_cat (strT X ++ ⟨#[124]⟩) (strT Y) u (by rw [ByteArray.size_append]; omega)
    clear hJ hlp
    go_enter Tryd.func17, Tryd.ntmps17
    go_wp2_with (first
      | (go_at_call 27; refine GF.out.mono ?_; rintro e w1 ⟨rfl, hw1⟩; subst w1)
      | (go_at_call 26; refine (GY.out w2 hb2).mono ?_; rintro e w3 ⟨rfl, hb3⟩)
      | (go_at_call 26; refine GX.out.mono ?_; rintro e w2 ⟨rfl, hb2⟩))
    go_ret
    exact ⟨rfl, bl_step hb2 hb3⟩

theorem showNo (v : Value) (l : List Cel) (w : World) (hA : Cels w v l) (h : rightB l = false) : Calls Tryd.prog 8 #[v] w fun e w' => e = .returned (.tuple #[.string ⟨#[]⟩, .int .i64 1]) ∧ w' = w := by
  have GR := hid (rightC v l w hA)
  rw [h] at GR
  clear hA h
  go_enter Tryd.func8, Tryd.ntmps8
  go_wp2_with (go_at_call 10; refine GR.out.mono ?_; rintro e u1 ⟨rfl, hu⟩; subst u1)
  refine bodyPost_ret (v := .tuple #[.string ⟨#[]⟩, .int .i64 1]) (by simp [results, Tryd.results8, go_sem]) rfl ⟨rfl, rfl⟩
theorem showYes (v : Value) (t : Rx) (w : World) (hA : Cels w v (post t)) (ho : t.ok) (hl : (post t).length ≤ 60) : Calls Tryd.prog 8 #[v] w fun e w' => e = .returned (.tuple #[.string (strT (txt t)), .int .i64 0]) ∧ Below w.heap.size w w' := by
  have GR := hid (rightC v (post t) w hA)
  rw [right_post ho hl] at GR
  have hp := post_pos t
  have GE := hid (textC t v (post t) [] [] (((post t).length : Int) - 1) w hA hl (by simp) (by simp))
  obtain ⟨av, cv, rfl, _, _, _, _⟩ := hA
  generalize strT (txt t) = Z at GE ⊢
  generalize (post t).length = m at GR GE hp hl ⊢
  go_enter Tryd.func8, Tryd.ntmps8
  go_wp2_with (first
    | (go_at_call 10; refine GR.out.mono ?_; rintro e u1 ⟨rfl, hu⟩; subst u1)
    | (go_at_call 17; refine GE.out.mono ?_; rintro e u2 ⟨rfl, hb2⟩))
  refine bodyPost_ret (v := .tuple #[.string Z, .int .i64 0]) (by simp [results, Tryd.results8, go_sem]) rfl ⟨rfl, hb2⟩

end Go.Proofs.YtjiljfmejgiabaaDoor
