/- The reference: spot, First, Last. The reference: First. The reference: Last. -/
import Derived.Test.YtlpbeieljjgbaaaGreatDoorJ13
namespace Go.Proofs.YtlpbeieljjgbaaaGreatDoor
open Go.RowKit

set_option maxRecDepth 20000 in
set_option maxHeartbeats 2000000 in
theorem spotC (v : Value) (l : List Cel) (J : Nat) (w : World) (hA : Cels w v l) (hl : l.length ≤ 60) (hJ : J ≤ l.length) :
    Calls Tryz.prog 76 #[v, .int .i64 (J : Int)] w fun e w' => e = .returned (.int .i64 (numS (l.take J) : Int)) ∧ w' = w := by
  obtain ⟨av, cv, rfl, _, _, _, hAt⟩ := hA
  have hAt := hid (fun j c => @cel_at w av l hAt j c)
  have hT := hid (numS_take l)
  have hnl : Hid (∀ k, numS (l.take k) ≤ 60) := hid (fun k => Nat.le_trans (numS_le _) (by rw [List.length_take]; omega))
  have h0 : numS (l.take 0) = 0 := rfl
  obtain ⟨f, hf⟩ : ∃ f : Nat → Nat, Hid (f = fun k => numS (l.take k)) := ⟨_, hid rfl⟩
  have hfk : ∀ k, numS (l.take k) = f k := fun k => by rw [hf.out]
  rw [hfk] at h0
  have hT' : Hid (∀ k (h : k < l.length), f (k + 1) = f k + (if l[k].op = 1 then 1 else 0)) := hid (fun k h => by rw [← hfk, ← hfk]; exact hT.out k h)
  have hnl' : Hid (∀ k, f k ≤ 60) := hid (fun k => by rw [← hfk]; exact hnl.out k)
  rw [hfk]
  clear hT hnl hfk hf
  go_enter Tryz.func76, Tryz.ntmps76
  go_wp2
  go_loopw [5, 6] (fun n i wr => ∃ k : Nat, k ≤ J ∧ i = .int .i64 k ∧ n = .int .i64 (f k : Int) ∧ Hid (wr = w)) (fun _ i _ => J - (intOf i).toNat)
  case atStart => exact ⟨0, Nat.zero_le _, rfl, by rw [h0]; rfl, hid rfl⟩
  case round =>
    obtain ⟨k, hk, rfl, rfl, hwr⟩ := hrel
    have hwr' := hwr.out
    subst hwr'
    by_cases hlt : k < J
    · have hltz : (k : Int) < (J : Int) := by omega
      have hkl : k < l.length := by omega
      have hklz : (k : Int) < (l.length : Int) := by omega
      obtain ⟨_, b', o', rfl, d0, -, -, -, -⟩ := hAt.out k _ (List.getElem?_eq_getElem hkl)
      have hs := hid (hT'.out k hkl)
      have hb := hnl'.out k
      generalize l[k] = c at d0 hs
      by_cases h1 : c.op = 1
      · rw [h1] at d0
        rw [if_pos h1] at hs
        go_wp2
        go_roundw
        case rel => exact ⟨k + 1, by omega, by go_num, by rw [hs.out]; go_num, by first | exact hid rfl | exact hid trivial⟩
        case measure => simp [intOf]; omega
      · have hne : (c.op == 1) = false := by simpa using h1
        rw [if_neg h1] at hs
        go_wp2
        go_roundw
        case rel => exact ⟨k + 1, by omega, by go_num, by rw [hs.out]; rfl, by first | exact hid rfl | exact hid trivial⟩
        case measure => simp [intOf]; omega
    · have hltz : ¬ (k : Int) < (J : Int) := by omega
      obtain rfl : J = k := by omega
      go_wp2
      go_ret
      exact ⟨rfl, rfl⟩

end Go.Proofs.YtlpbeieljjgbaaaGreatDoor
namespace Go.Proofs.YtlpbeieljjgbaaaGreatDoor
open Go.RowKit

/-- what First and Last answer of a rule -/
def FirC (f : FuncId) (L : Rx → Nat → List Int) (t : Rx) : Prop := ∀ (v : Value) (l pre suf : List Cel) (E : Int) (w : World), Cels w v l → l.length ≤ 60 → l = pre ++ (post t ++ suf) → E + 1 = ((pre.length + (post t).length : Nat) : Int) →
    Calls Tryz.prog f #[v, .int .i64 E] w fun e w' => ∃ v', e = .returned v' ∧ Own w' w.heap.size v' (L t (numS pre)) ∧ Below w.heap.size w w'
set_option maxRecDepth 20000 in
set_option maxHeartbeats 4000000 in
theorem firstLSet (S : W4) : FirC 51 firstL (.set S) := by
  intro v l pre suf E w hA hl h hE
  obtain ⟨J, hJ, hc⟩ := root_at h
  have hle := len_le h
  have hJp : J = pre.length := by simp [post] at hJ; omega
  have hT : l.take J = pre := by rw [h, hJp]; simp
  have GS := hid (spotC v l J w hA hl (by omega))
  rw [hT] at GS
  have hnb : numS pre ≤ 60 := Nat.le_trans (numS_le pre) (by omega)
  obtain ⟨av, cv, rfl, _, _, _, hAt⟩ := hA
  obtain ⟨hjl, b', o', rfl, d0, -, -, -, -⟩ := cel_at hAt hc
  obtain rfl : E = (J : Int) := by omega
  have hjz : (J : Int) < (l.length : Int) := by omega
  simp only [rootC] at d0
  have hN := hid (World.ownsRow_nil w w.heap.size 3 1)
  show Calls Tryz.prog 51 _ w fun e w' => ∃ v', e = .returned v' ∧ Own w' w.heap.size v' [(numS pre : Int)] ∧ Below w.heap.size w w'
  generalize (numS pre : Int) = x at GS ⊢
  have hN1 := hid (World.ownsRow.alloc hN.out (.cells #[.int .i64 x] 3))
  clear hAt hc h hE hJ hT hJp
  go_enter Tryz.func51, Tryz.ntmps51
  go_wp2_with (first
    | (go_at_call 76; refine GS.out.mono ?_; rintro e u1 ⟨rfl, hu⟩; subst u1)
    | (at_builtin; refine wp_app _ rfl _ _ rfl w.heap.size [] [x] _ _ rfl rfl hN1.out (Nums.lit1 w x) (by simp) (by simp) ?_; intro v' w2 hO3 hb2))
  go_ret
  exact ⟨_, rfl, hO3, (al' w _).trans hb2⟩
set_option maxRecDepth 20000 in
set_option maxHeartbeats 4000000 in
theorem firstLEps : FirC 51 firstL .eps := by
  intro v l pre suf E w hA hl h hE
  obtain ⟨J, hJ, hc⟩ := root_at h
  obtain ⟨av, cv, rfl, _, _, _, hAt⟩ := hA
  obtain ⟨hjl, b', o', rfl, d0, -, -, -, -⟩ := cel_at hAt hc
  obtain rfl : E = (J : Int) := by omega
  have hjz : (J : Int) < (l.length : Int) := by omega
  simp only [rootC] at d0
  have hN := hid (World.ownsRow_nil w w.heap.size 3 1)
  clear hAt hc h hE hJ
  go_enter Tryz.func51, Tryz.ntmps51
  go_wp2
  go_ret
  exact ⟨_, rfl, hN.out, Below.refl _ _⟩
set_option maxRecDepth 20000 in
set_option maxHeartbeats 4000000 in
theorem firstLStar (a : Rx) (Ha : FirC 51 firstL a) : FirC 51 firstL (.star a) := by
  intro v l pre suf E w hA hl h hE
  obtain ⟨J, hJ, hc⟩ := root_at h
  have hle := len_le h
  have hpa := post_pos a
  have hpl : (post (.star a)).length = (post a).length + 1 := by simp [post]
  have G := hid (Ha v l pre (⟨5, noneB⟩ :: suf) (E - 1) w hA hl (by rw [h]; simp [post]) (by rw [hpl] at hE; omega))
  obtain ⟨av, cv, rfl, _, _, _, hAt⟩ := hA
  obtain ⟨hjl, b', o', rfl, d0, -, -, -, -⟩ := cel_at hAt hc
  obtain rfl : E = (J : Int) := by omega
  have hjz : (J : Int) < (l.length : Int) := by omega
  simp only [rootC] at d0
  have hJ1 : 1 ≤ J := by omega
  show Calls Tryz.prog 51 _ w fun e w' => ∃ v', e = .returned v' ∧ Own w' w.heap.size v' (firstL a (numS pre)) ∧ Below w.heap.size w w'
  generalize firstL a (numS pre) = la at G ⊢
  clear hAt hc h hE hJ
  go_enter Tryz.func51, Tryz.ntmps51
  go_wp2_with (go_at_call 51; refine G.out.mono ?_; rintro e w1 ⟨v1, rfl, hO1, hb1⟩)
  go_ret
  exact ⟨_, rfl, hO1, hb1⟩
set_option maxRecDepth 20000 in
set_option maxHeartbeats 4000000 in
theorem firstLPlus (a : Rx) (Ha : FirC 51 firstL a) : FirC 51 firstL (.plus a) := by
  intro v l pre suf E w hA hl h hE
  obtain ⟨J, hJ, hc⟩ := root_at h
  have hle := len_le h
  have hpa := post_pos a
  have hpl : (post (.plus a)).length = (post a).length + 1 := by simp [post]
  have G := hid (Ha v l pre (⟨6, noneB⟩ :: suf) (E - 1) w hA hl (by rw [h]; simp [post]) (by rw [hpl] at hE; omega))
  obtain ⟨av, cv, rfl, _, _, _, hAt⟩ := hA
  obtain ⟨hjl, b', o', rfl, d0, -, -, -, -⟩ := cel_at hAt hc
  obtain rfl : E = (J : Int) := by omega
  have hjz : (J : Int) < (l.length : Int) := by omega
  simp only [rootC] at d0
  have hJ1 : 1 ≤ J := by omega
  show Calls Tryz.prog 51 _ w fun e w' => ∃ v', e = .returned v' ∧ Own w' w.heap.size v' (firstL a (numS pre)) ∧ Below w.heap.size w w'
  generalize firstL a (numS pre) = la at G ⊢
  clear hAt hc h hE hJ
  go_enter Tryz.func51, Tryz.ntmps51
  go_wp2_with (go_at_call 51; refine G.out.mono ?_; rintro e w1 ⟨v1, rfl, hO1, hb1⟩)
  go_ret
  exact ⟨_, rfl, hO1, hb1⟩
set_option maxRecDepth 20000 in
set_option maxHeartbeats 4000000 in
theorem firstLOpt (a : Rx) (Ha : FirC 51 firstL a) : FirC 51 firstL (.opt a) := by
  intro v l pre suf E w hA hl h hE
  obtain ⟨J, hJ, hc⟩ := root_at h
  have hle := len_le h
  have hpa := post_pos a
  have hpl : (post (.opt a)).length = (post a).length + 1 := by simp [post]
  have G := hid (Ha v l pre (⟨7, noneB⟩ :: suf) (E - 1) w hA hl (by rw [h]; simp [post]) (by rw [hpl] at hE; omega))
  obtain ⟨av, cv, rfl, _, _, _, hAt⟩ := hA
  obtain ⟨hjl, b', o', rfl, d0, -, -, -, -⟩ := cel_at hAt hc
  obtain rfl : E = (J : Int) := by omega
  have hjz : (J : Int) < (l.length : Int) := by omega
  simp only [rootC] at d0
  have hJ1 : 1 ≤ J := by omega
  show Calls Tryz.prog 51 _ w fun e w' => ∃ v', e = .returned v' ∧ Own w' w.heap.size v' (firstL a (numS pre)) ∧ Below w.heap.size w w'
  generalize firstL a (numS pre) = la at G ⊢
  clear hAt hc h hE hJ
  go_enter Tryz.func51, Tryz.ntmps51
  go_wp2_with (go_at_call 51; refine G.out.mono ?_; rintro e w1 ⟨v1, rfl, hO1, hb1⟩)
  go_ret
  exact ⟨_, rfl, hO1, hb1⟩
set_option maxRecDepth 20000 in
set_option maxHeartbeats 4000000 in
theorem firstLOr (a b : Rx) (Ha : FirC 51 firstL a) (Hb : FirC 51 firstL b) : FirC 51 firstL (.or a b) := by
  intro v l pre suf E w hA hl h hE
  obtain ⟨J, hJ, hc⟩ := root_at h
  have hle := len_le h
  have hpa := post_pos a
  have hpb := post_pos b
  have hpl : (post (.or a b)).length = (post a).length + ((post b).length + 1) := by simp [post]
  have hsp : l = (pre ++ post a) ++ (post b ++ (⟨4, noneB⟩ :: suf)) := by rw [h]; simp [post]
  have hlp : (pre ++ post a).length = pre.length + (post a).length := by simp
  have hns : numS (pre ++ post a) = numS pre + nSets a := by rw [numS_app, numS_post]
  have hEb : E - 1 + 1 = (((pre ++ post a).length + (post b).length : Nat) : Int) := by rw [hlp]; rw [hpl] at hE; omega
  have hsa : l = pre ++ (post a ++ (post b ++ (⟨4, noneB⟩ :: suf))) := by rw [h]; simp [post]
  have hEa : (((pre ++ post a).length : Nat) : Int) - 1 + 1 = ((pre.length + (post a).length : Nat) : Int) := by rw [hlp]; omega
  have GF := hid (fun u hA => fromC v l (pre ++ post a) (⟨4, noneB⟩ :: suf) b (E - 1) u hA hl hsp hEb)
  have GA := hid (fun u hA => Ha v l pre (post b ++ (⟨4, noneB⟩ :: suf)) ((((pre ++ post a).length : Nat) : Int) - 1) u hA hl hsa hEa)
  have GB := hid (fun u hA => Hb v l (pre ++ post a) (⟨4, noneB⟩ :: suf) (E - 1) u hA hl hsp hEb)
  have EA := hid (fun u hA => emptyC a v l pre (post b ++ (⟨4, noneB⟩ :: suf)) ((((pre ++ post a).length : Nat) : Int) - 1) u hA hl hsa hEa)
  have EB := hid (fun u hA => emptyC b v l (pre ++ post a) (⟨4, noneB⟩ :: suf) (E - 1) u hA hl hsp hEb)
  have hM0 : 0 < (pre ++ post a).length := by omega
  have hM1 : (pre ++ post a).length ≤ 60 := by omega
  have hA0 := hid hA
  rw [hns] at GB
  have hla : (firstL a (numS pre)).length ≤ 60 := Nat.le_trans (firstL_len a _) (Nat.le_trans (nSets_le a) (by omega))
  have hlb : (firstL b (numS pre + nSets a)).length ≤ 60 := Nat.le_trans (firstL_len b _) (Nat.le_trans (nSets_le b) (by omega))
  obtain ⟨av, cv, rfl, _, _, _, hAt⟩ := hA
  obtain ⟨hjl, b', o', rfl, d0, -, -, -, -⟩ := cel_at hAt hc
  obtain rfl : E = (J : Int) := by omega
  have hjz : (J : Int) < (l.length : Int) := by omega
  simp only [rootC] at d0
  have hJ1 : 1 ≤ J := by omega
  have GU := hid (fun va vb u h1 h2 => refUnion va vb (firstL a (numS pre)) (firstL b (numS pre + nSets a)) u (by omega) (by omega) h1 h2)
  show Calls Tryz.prog 51 _ w fun e w' => ∃ v', e = .returned v' ∧ Own w' w.heap.size v' (unionL (firstL a (numS pre)) (firstL b (numS pre + nSets a))) ∧ Below w.heap.size w w'
  generalize firstL a (numS pre) = la at GA GU hla ⊢
  generalize firstL b (numS pre + nSets a) = lb at GB GU hlb ⊢
  generalize unionL la lb = lu at GU ⊢
  generalize (pre ++ post a).length = M at GF GA EA hM0 hM1
  clear hAt hc h hE hJ hsp hlp hpl hEb hsa hEa hns
  have GF0 := hid (GF.out w hA0.out)
  have GA0 := hid (GA.out w hA0.out)
  go_enter Tryz.func51, Tryz.ntmps51
  go_wp2_with (first
    | (go_at_call 53; refine GF0.out.mono ?_; rintro e u2 ⟨rfl, hu2⟩; subst u2)
    | (go_at_call 54; refine (GU.out _ _ _ (Nums.keep (Nums.of_row hO1) hb2) (Nums.of_row hO2)).mono ?_; rintro e w3 ⟨v3, rfl, hO3, hb3⟩)
    | (go_at_call 51; refine (GB.out w1 (hA0.out.keep hb1)).mono ?_; rintro e w2 ⟨v2, rfl, hO2, hb2⟩)
    | (go_at_call 51; refine GA0.out.mono ?_; rintro e w1 ⟨v1, rfl, hO1, hb1⟩))
  go_ret
  exact ⟨_, rfl, own_base hO3 (bl_step hb1 hb2).size, bl_step (bl_step hb1 hb2) hb3⟩
set_option maxRecDepth 20000 in
set_option maxHeartbeats 4000000 in
theorem firstLCat (a b : Rx) (Ha : FirC 51 firstL a) (Hb : FirC 51 firstL b) : FirC 51 firstL (.cat a b) := by
  intro v l pre suf E w hA hl h hE
  obtain ⟨J, hJ, hc⟩ := root_at h
  have hle := len_le h
  have hpa := post_pos a
  have hpb := post_pos b
  have hpl : (post (.cat a b)).length = (post a).length + ((post b).length + 1) := by simp [post]
  have hsp : l = (pre ++ post a) ++ (post b ++ (⟨3, noneB⟩ :: suf)) := by rw [h]; simp [post]
  have hlp : (pre ++ post a).length = pre.length + (post a).length := by simp
  have hns : numS (pre ++ post a) = numS pre + nSets a := by rw [numS_app, numS_post]
  have hEb : E - 1 + 1 = (((pre ++ post a).length + (post b).length : Nat) : Int) := by rw [hlp]; rw [hpl] at hE; omega
  have hsa : l = pre ++ (post a ++ (post b ++ (⟨3, noneB⟩ :: suf))) := by rw [h]; simp [post]
  have hEa : (((pre ++ post a).length : Nat) : Int) - 1 + 1 = ((pre.length + (post a).length : Nat) : Int) := by rw [hlp]; omega
  have GF := hid (fun u hA => fromC v l (pre ++ post a) (⟨3, noneB⟩ :: suf) b (E - 1) u hA hl hsp hEb)
  have GA := hid (fun u hA => Ha v l pre (post b ++ (⟨3, noneB⟩ :: suf)) ((((pre ++ post a).length : Nat) : Int) - 1) u hA hl hsa hEa)
  have GB := hid (fun u hA => Hb v l (pre ++ post a) (⟨3, noneB⟩ :: suf) (E - 1) u hA hl hsp hEb)
  have EA := hid (fun u hA => emptyC a v l pre (post b ++ (⟨3, noneB⟩ :: suf)) ((((pre ++ post a).length : Nat) : Int) - 1) u hA hl hsa hEa)
  have EB := hid (fun u hA => emptyC b v l (pre ++ post a) (⟨3, noneB⟩ :: suf) (E - 1) u hA hl hsp hEb)
  have hM0 : 0 < (pre ++ post a).length := by omega
  have hM1 : (pre ++ post a).length ≤ 60 := by omega
  have hA0 := hid hA
  rw [hns] at GB
  have hla : (firstL a (numS pre)).length ≤ 60 := Nat.le_trans (firstL_len a _) (Nat.le_trans (nSets_le a) (by omega))
  have hlb : (firstL b (numS pre + nSets a)).length ≤ 60 := Nat.le_trans (firstL_len b _) (Nat.le_trans (nSets_le b) (by omega))
  obtain ⟨av, cv, rfl, _, _, _, hAt⟩ := hA
  obtain ⟨hjl, b', o', rfl, d0, -, -, -, -⟩ := cel_at hAt hc
  obtain rfl : E = (J : Int) := by omega
  have hjz : (J : Int) < (l.length : Int) := by omega
  simp only [rootC] at d0
  have hJ1 : 1 ≤ J := by omega
  have GU := hid (fun va vb u h1 h2 => refUnion va vb (firstL a (numS pre)) (firstL b (numS pre + nSets a)) u (by omega) (by omega) h1 h2)
  show Calls Tryz.prog 51 _ w fun e w' => ∃ v', e = .returned v' ∧ Own w' w.heap.size v' (if a.null then unionL (firstL a (numS pre)) (firstL b (numS pre + nSets a)) else firstL a (numS pre)) ∧ Below w.heap.size w w'
  generalize firstL a (numS pre) = la at GA GU hla ⊢
  generalize firstL b (numS pre + nSets a) = lb at GB GU hlb ⊢
  generalize unionL la lb = lu at GU ⊢
  generalize (pre ++ post a).length = M at GF GA EA hM0 hM1
  clear hAt hc h hE hJ hsp hlp hpl hEb hsa hEa hns
  cases hz : a.null with
  | false =>
    rw [hz] at EA
    simp only [Bool.false_eq_true, if_false]
    go_enter Tryz.func51, Tryz.ntmps51
    go_wp2_with (first
      | (go_at_call 53; refine (GF.out _ (by first | exact hA0.out.keep hb1 | exact hA0.out)).mono ?_; rintro e u2 ⟨rfl, hu2⟩; subst u2)
      | (go_at_call 49; refine (EA.out w1 (hA0.out.keep hb1)).mono ?_; rintro e u2 ⟨rfl, hu2⟩; subst u2)
      | (go_at_call 51; refine (GA.out w hA0.out).mono ?_; rintro e w1 ⟨v1, rfl, hO1, hb1⟩))
    go_ret
    exact ⟨_, rfl, hO1, hb1⟩
  | true =>
    rw [hz] at EA
    simp only [if_true]
    go_enter Tryz.func51, Tryz.ntmps51
    go_wp2_with (first
      | (go_at_call 53; refine (GF.out _ (by first | exact hA0.out.keep hb1 | exact hA0.out)).mono ?_; rintro e u2 ⟨rfl, hu2⟩; subst u2)
      | (go_at_call 49; refine (EA.out w1 (hA0.out.keep hb1)).mono ?_; rintro e u2 ⟨rfl, hu2⟩; subst u2)
      | (go_at_call 54; refine (GU.out _ _ _ (Nums.keep (Nums.of_row hO1) hb2) (Nums.of_row hO2)).mono ?_; rintro e w3 ⟨v3, rfl, hO3, hb3⟩)
      | (go_at_call 51; refine (GB.out w1 (hA0.out.keep hb1)).mono ?_; rintro e w2 ⟨v2, rfl, hO2, hb2⟩)
      | (go_at_call 51; refine (GA.out w hA0.out).mono ?_; rintro e w1 ⟨v1, rfl, hO1, hb1⟩))
    go_ret
    exact ⟨_, rfl, own_base hO3 (bl_step hb1 hb2).size, bl_step (bl_step hb1 hb2) hb3⟩
theorem firstLC : ∀ t : Rx, FirC 51 firstL t
  | .set S => firstLSet S
  | .eps => firstLEps
  | .cat a b => firstLCat a b (firstLC a) (firstLC b)
  | .or a b => firstLOr a b (firstLC a) (firstLC b)
  | .star a => firstLStar a (firstLC a)
  | .plus a => firstLPlus a (firstLC a)
  | .opt a => firstLOpt a (firstLC a)

end Go.Proofs.YtlpbeieljjgbaaaGreatDoor
namespace Go.Proofs.YtlpbeieljjgbaaaGreatDoor
open Go.RowKit

set_option maxRecDepth 20000 in
set_option maxHeartbeats 4000000 in
theorem lastLSet (S : W4) : FirC 52 lastL (.set S) := by
  intro v l pre suf E w hA hl h hE
  obtain ⟨J, hJ, hc⟩ := root_at h
  have hle := len_le h
  have hJp : J = pre.length := by simp [post] at hJ; omega
  have hT : l.take J = pre := by rw [h, hJp]; simp
  have GS := hid (spotC v l J w hA hl (by omega))
  rw [hT] at GS
  have hnb : numS pre ≤ 60 := Nat.le_trans (numS_le pre) (by omega)
  obtain ⟨av, cv, rfl, _, _, _, hAt⟩ := hA
  obtain ⟨hjl, b', o', rfl, d0, -, -, -, -⟩ := cel_at hAt hc
  obtain rfl : E = (J : Int) := by omega
  have hjz : (J : Int) < (l.length : Int) := by omega
  simp only [rootC] at d0
  have hN := hid (World.ownsRow_nil w w.heap.size 3 1)
  show Calls Tryz.prog 52 _ w fun e w' => ∃ v', e = .returned v' ∧ Own w' w.heap.size v' [(numS pre : Int)] ∧ Below w.heap.size w w'
  generalize (numS pre : Int) = x at GS ⊢
  have hN1 := hid (World.ownsRow.alloc hN.out (.cells #[.int .i64 x] 3))
  clear hAt hc h hE hJ hT hJp
  go_enter Tryz.func52, Tryz.ntmps52
  go_wp2_with (first
    | (go_at_call 76; refine GS.out.mono ?_; rintro e u1 ⟨rfl, hu⟩; subst u1)
    | (at_builtin; refine wp_app _ rfl _ _ rfl w.heap.size [] [x] _ _ rfl rfl hN1.out (Nums.lit1 w x) (by simp) (by simp) ?_; intro v' w2 hO3 hb2))
  go_ret
  exact ⟨_, rfl, hO3, (al' w _).trans hb2⟩
set_option maxRecDepth 20000 in
set_option maxHeartbeats 4000000 in
theorem lastLEps : FirC 52 lastL .eps := by
  intro v l pre suf E w hA hl h hE
  obtain ⟨J, hJ, hc⟩ := root_at h
  obtain ⟨av, cv, rfl, _, _, _, hAt⟩ := hA
  obtain ⟨hjl, b', o', rfl, d0, -, -, -, -⟩ := cel_at hAt hc
  obtain rfl : E = (J : Int) := by omega
  have hjz : (J : Int) < (l.length : Int) := by omega
  simp only [rootC] at d0
  have hN := hid (World.ownsRow_nil w w.heap.size 3 1)
  clear hAt hc h hE hJ
  go_enter Tryz.func52, Tryz.ntmps52
  go_wp2
  go_ret
  exact ⟨_, rfl, hN.out, Below.refl _ _⟩
set_option maxRecDepth 20000 in
set_option maxHeartbeats 4000000 in
theorem lastLStar (a : Rx) (Ha : FirC 52 lastL a) : FirC 52 lastL (.star a) := by
  intro v l pre suf E w hA hl h hE
  obtain ⟨J, hJ, hc⟩ := root_at h
  have hle := len_le h
  have hpa := post_pos a
  have hpl : (post (.star a)).length = (post a).length + 1 := by simp [post]
  have G := hid (Ha v l pre (⟨5, noneB⟩ :: suf) (E - 1) w hA hl (by rw [h]; simp [post]) (by rw [hpl] at hE; omega))
  obtain ⟨av, cv, rfl, _, _, _, hAt⟩ := hA
  obtain ⟨hjl, b', o', rfl, d0, -, -, -, -⟩ := cel_at hAt hc
  obtain rfl : E = (J : Int) := by omega
  have hjz : (J : Int) < (l.length : Int) := by omega
  simp only [rootC] at d0
  have hJ1 : 1 ≤ J := by omega
  show Calls Tryz.prog 52 _ w fun e w' => ∃ v', e = .returned v' ∧ Own w' w.heap.size v' (lastL a (numS pre)) ∧ Below w.heap.size w w'
  generalize lastL a (numS pre) = la at G ⊢
  clear hAt hc h hE hJ
  go_enter Tryz.func52, Tryz.ntmps52
  go_wp2_with (go_at_call 52; refine G.out.mono ?_; rintro e w1 ⟨v1, rfl, hO1, hb1⟩)
  go_ret
  exact ⟨_, rfl, hO1, hb1⟩
set_option maxRecDepth 20000 in
set_option maxHeartbeats 4000000 in
theorem lastLPlus (a : Rx) (Ha : FirC 52 lastL a) : FirC 52 lastL (.plus a) := by
  intro v l pre suf E w hA hl h hE
  obtain ⟨J, hJ, hc⟩ := root_at h
  have hle := len_le h
  have hpa := post_pos a
  have hpl : (post (.plus a)).length = (post a).length + 1 := by simp [post]
  have G := hid (Ha v l pre (⟨6, noneB⟩ :: suf) (E - 1) w hA hl (by rw [h]; simp [post]) (by rw [hpl] at hE; omega))
  obtain ⟨av, cv, rfl, _, _, _, hAt⟩ := hA
  obtain ⟨hjl, b', o', rfl, d0, -, -, -, -⟩ := cel_at hAt hc
  obtain rfl : E = (J : Int) := by omega
  have hjz : (J : Int) < (l.length : Int) := by omega
  simp only [rootC] at d0
  have hJ1 : 1 ≤ J := by omega
  show Calls Tryz.prog 52 _ w fun e w' => ∃ v', e = .returned v' ∧ Own w' w.heap.size v' (lastL a (numS pre)) ∧ Below w.heap.size w w'
  generalize lastL a (numS pre) = la at G ⊢
  clear hAt hc h hE hJ
  go_enter Tryz.func52, Tryz.ntmps52
  go_wp2_with (go_at_call 52; refine G.out.mono ?_; rintro e w1 ⟨v1, rfl, hO1, hb1⟩)
  go_ret
  exact ⟨_, rfl, hO1, hb1⟩
set_option maxRecDepth 20000 in
set_option maxHeartbeats 4000000 in
theorem lastLOpt (a : Rx) (Ha : FirC 52 lastL a) : FirC 52 lastL (.opt a) := by
  intro v l pre suf E w hA hl h hE
  obtain ⟨J, hJ, hc⟩ := root_at h
  have hle := len_le h
  have hpa := post_pos a
  have hpl : (post (.opt a)).length = (post a).length + 1 := by simp [post]
  have G := hid (Ha v l pre (⟨7, noneB⟩ :: suf) (E - 1) w hA hl (by rw [h]; simp [post]) (by rw [hpl] at hE; omega))
  obtain ⟨av, cv, rfl, _, _, _, hAt⟩ := hA
  obtain ⟨hjl, b', o', rfl, d0, -, -, -, -⟩ := cel_at hAt hc
  obtain rfl : E = (J : Int) := by omega
  have hjz : (J : Int) < (l.length : Int) := by omega
  simp only [rootC] at d0
  have hJ1 : 1 ≤ J := by omega
  show Calls Tryz.prog 52 _ w fun e w' => ∃ v', e = .returned v' ∧ Own w' w.heap.size v' (lastL a (numS pre)) ∧ Below w.heap.size w w'
  generalize lastL a (numS pre) = la at G ⊢
  clear hAt hc h hE hJ
  go_enter Tryz.func52, Tryz.ntmps52
  go_wp2_with (go_at_call 52; refine G.out.mono ?_; rintro e w1 ⟨v1, rfl, hO1, hb1⟩)
  go_ret
  exact ⟨_, rfl, hO1, hb1⟩
set_option maxRecDepth 20000 in
set_option maxHeartbeats 4000000 in
theorem lastLOr (a b : Rx) (Ha : FirC 52 lastL a) (Hb : FirC 52 lastL b) : FirC 52 lastL (.or a b) := by
  intro v l pre suf E w hA hl h hE
  obtain ⟨J, hJ, hc⟩ := root_at h
  have hle := len_le h
  have hpa := post_pos a
  have hpb := post_pos b
  have hpl : (post (.or a b)).length = (post a).length + ((post b).length + 1) := by simp [post]
  have hsp : l = (pre ++ post a) ++ (post b ++ (⟨4, noneB⟩ :: suf)) := by rw [h]; simp [post]
  have hlp : (pre ++ post a).length = pre.length + (post a).length := by simp
  have hns : numS (pre ++ post a) = numS pre + nSets a := by rw [numS_app, numS_post]
  have hEb : E - 1 + 1 = (((pre ++ post a).length + (post b).length : Nat) : Int) := by rw [hlp]; rw [hpl] at hE; omega
  have hsa : l = pre ++ (post a ++ (post b ++ (⟨4, noneB⟩ :: suf))) := by rw [h]; simp [post]
  have hEa : (((pre ++ post a).length : Nat) : Int) - 1 + 1 = ((pre.length + (post a).length : Nat) : Int) := by rw [hlp]; omega
  have GF := hid (fun u hA => fromC v l (pre ++ post a) (⟨4, noneB⟩ :: suf) b (E - 1) u hA hl hsp hEb)
  have GA := hid (fun u hA => Ha v l pre (post b ++ (⟨4, noneB⟩ :: suf)) ((((pre ++ post a).length : Nat) : Int) - 1) u hA hl hsa hEa)
  have GB := hid (fun u hA => Hb v l (pre ++ post a) (⟨4, noneB⟩ :: suf) (E - 1) u hA hl hsp hEb)
  have EA := hid (fun u hA => emptyC a v l pre (post b ++ (⟨4, noneB⟩ :: suf)) ((((pre ++ post a).length : Nat) : Int) - 1) u hA hl hsa hEa)
  have EB := hid (fun u hA => emptyC b v l (pre ++ post a) (⟨4, noneB⟩ :: suf) (E - 1) u hA hl hsp hEb)
  have hM0 : 0 < (pre ++ post a).length := by omega
  have hM1 : (pre ++ post a).length ≤ 60 := by omega
  have hA0 := hid hA
  rw [hns] at GB
  have hla : (lastL a (numS pre)).length ≤ 60 := Nat.le_trans (lastL_len a _) (Nat.le_trans (nSets_le a) (by omega))
  have hlb : (lastL b (numS pre + nSets a)).length ≤ 60 := Nat.le_trans (lastL_len b _) (Nat.le_trans (nSets_le b) (by omega))
  obtain ⟨av, cv, rfl, _, _, _, hAt⟩ := hA
  obtain ⟨hjl, b', o', rfl, d0, -, -, -, -⟩ := cel_at hAt hc
  obtain rfl : E = (J : Int) := by omega
  have hjz : (J : Int) < (l.length : Int) := by omega
  simp only [rootC] at d0
  have hJ1 : 1 ≤ J := by omega
  have GU := hid (fun va vb u h1 h2 => refUnion va vb (lastL a (numS pre)) (lastL b (numS pre + nSets a)) u (by omega) (by omega) h1 h2)
  show Calls Tryz.prog 52 _ w fun e w' => ∃ v', e = .returned v' ∧ Own w' w.heap.size v' (unionL (lastL a (numS pre)) (lastL b (numS pre + nSets a))) ∧ Below w.heap.size w w'
  generalize lastL a (numS pre) = la at GA GU hla ⊢
  generalize lastL b (numS pre + nSets a) = lb at GB GU hlb ⊢
  generalize unionL la lb = lu at GU ⊢
  generalize (pre ++ post a).length = M at GF GA EA hM0 hM1
  clear hAt hc h hE hJ hsp hlp hpl hEb hsa hEa hns
  have GF0 := hid (GF.out w hA0.out)
  have GA0 := hid (GA.out w hA0.out)
  go_enter Tryz.func52, Tryz.ntmps52
  go_wp2_with (first
    | (go_at_call 53; refine GF0.out.mono ?_; rintro e u2 ⟨rfl, hu2⟩; subst u2)
    | (go_at_call 54; refine (GU.out _ _ _ (Nums.keep (Nums.of_row hO1) hb2) (Nums.of_row hO2)).mono ?_; rintro e w3 ⟨v3, rfl, hO3, hb3⟩)
    | (go_at_call 52; refine (GB.out w1 (hA0.out.keep hb1)).mono ?_; rintro e w2 ⟨v2, rfl, hO2, hb2⟩)
    | (go_at_call 52; refine GA0.out.mono ?_; rintro e w1 ⟨v1, rfl, hO1, hb1⟩))
  go_ret
  exact ⟨_, rfl, own_base hO3 (bl_step hb1 hb2).size, bl_step (bl_step hb1 hb2) hb3⟩
set_option maxRecDepth 20000 in
set_option maxHeartbeats 4000000 in
theorem lastLCat (a b : Rx) (Ha : FirC 52 lastL a) (Hb : FirC 52 lastL b) : FirC 52 lastL (.cat a b) := by
  intro v l pre suf E w hA hl h hE
  obtain ⟨J, hJ, hc⟩ := root_at h
  have hle := len_le h
  have hpa := post_pos a
  have hpb := post_pos b
  have hpl : (post (.cat a b)).length = (post a).length + ((post b).length + 1) := by simp [post]
  have hsp : l = (pre ++ post a) ++ (post b ++ (⟨3, noneB⟩ :: suf)) := by rw [h]; simp [post]
  have hlp : (pre ++ post a).length = pre.length + (post a).length := by simp
  have hns : numS (pre ++ post a) = numS pre + nSets a := by rw [numS_app, numS_post]
  have hEb : E - 1 + 1 = (((pre ++ post a).length + (post b).length : Nat) : Int) := by rw [hlp]; rw [hpl] at hE; omega
  have hsa : l = pre ++ (post a ++ (post b ++ (⟨3, noneB⟩ :: suf))) := by rw [h]; simp [post]
  have hEa : (((pre ++ post a).length : Nat) : Int) - 1 + 1 = ((pre.length + (post a).length : Nat) : Int) := by rw [hlp]; omega
  have GF := hid (fun u hA => fromC v l (pre ++ post a) (⟨3, noneB⟩ :: suf) b (E - 1) u hA hl hsp hEb)
  have GA := hid (fun u hA => Ha v l pre (post b ++ (⟨3, noneB⟩ :: suf)) ((((pre ++ post a).length : Nat) : Int) - 1) u hA hl hsa hEa)
  have GB := hid (fun u hA => Hb v l (pre ++ post a) (⟨3, noneB⟩ :: suf) (E - 1) u hA hl hsp hEb)
  have EA := hid (fun u hA => emptyC a v l pre (post b ++ (⟨3, noneB⟩ :: suf)) ((((pre ++ post a).length : Nat) : Int) - 1) u hA hl hsa hEa)
  have EB := hid (fun u hA => emptyC b v l (pre ++ post a) (⟨3, noneB⟩ :: suf) (E - 1) u hA hl hsp hEb)
  have hM0 : 0 < (pre ++ post a).length := by omega
  have hM1 : (pre ++ post a).length ≤ 60 := by omega
  have hA0 := hid hA
  rw [hns] at GB
  have hla : (lastL a (numS pre)).length ≤ 60 := Nat.le_trans (lastL_len a _) (Nat.le_trans (nSets_le a) (by omega))
  have hlb : (lastL b (numS pre + nSets a)).length ≤ 60 := Nat.le_trans (lastL_len b _) (Nat.le_trans (nSets_le b) (by omega))
  obtain ⟨av, cv, rfl, _, _, _, hAt⟩ := hA
  obtain ⟨hjl, b', o', rfl, d0, -, -, -, -⟩ := cel_at hAt hc
  obtain rfl : E = (J : Int) := by omega
  have hjz : (J : Int) < (l.length : Int) := by omega
  simp only [rootC] at d0
  have hJ1 : 1 ≤ J := by omega
  have GU := hid (fun va vb u h1 h2 => refUnion va vb (lastL b (numS pre + nSets a)) (lastL a (numS pre)) u (by omega) (by omega) h1 h2)
  show Calls Tryz.prog 52 _ w fun e w' => ∃ v', e = .returned v' ∧ Own w' w.heap.size v' (if b.null then unionL (lastL b (numS pre + nSets a)) (lastL a (numS pre)) else lastL b (numS pre + nSets a)) ∧ Below w.heap.size w w'
  generalize lastL a (numS pre) = la at GA GU hla ⊢
  generalize lastL b (numS pre + nSets a) = lb at GB GU hlb ⊢
  generalize unionL lb la = lu at GU ⊢
  generalize (pre ++ post a).length = M at GF GA EA hM0 hM1
  clear hAt hc h hE hJ hsp hlp hpl hEb hsa hEa hns
  cases hz : b.null with
  | false =>
    rw [hz] at EB
    simp only [Bool.false_eq_true, if_false]
    go_enter Tryz.func52, Tryz.ntmps52
    go_wp2_with (first
      | (go_at_call 53; refine (GF.out _ (by first | exact hA0.out.keep hb1 | exact hA0.out)).mono ?_; rintro e u2 ⟨rfl, hu2⟩; subst u2)
      | (go_at_call 49; refine (EB.out w1 (hA0.out.keep hb1)).mono ?_; rintro e u2 ⟨rfl, hu2⟩; subst u2)
      | (go_at_call 52; refine (GB.out w hA0.out).mono ?_; rintro e w1 ⟨v1, rfl, hO1, hb1⟩))
    go_ret
    exact ⟨_, rfl, hO1, hb1⟩
  | true =>
    rw [hz] at EB
    simp only [if_true]
    go_enter Tryz.func52, Tryz.ntmps52
    go_wp2_with (first
      | (go_at_call 53; refine (GF.out _ (by first | exact hA0.out.keep hb1 | exact hA0.out)).mono ?_; rintro e u2 ⟨rfl, hu2⟩; subst u2)
      | (go_at_call 49; refine (EB.out w1 (hA0.out.keep hb1)).mono ?_; rintro e u2 ⟨rfl, hu2⟩; subst u2)
      | (go_at_call 54; refine (GU.out _ _ _ (Nums.keep (Nums.of_row hO1) hb2) (Nums.of_row hO2)).mono ?_; rintro e w3 ⟨v3, rfl, hO3, hb3⟩)
      | (go_at_call 52; refine (GA.out w1 (hA0.out.keep hb1)).mono ?_; rintro e w2 ⟨v2, rfl, hO2, hb2⟩)
      | (go_at_call 52; refine (GB.out w hA0.out).mono ?_; rintro e w1 ⟨v1, rfl, hO1, hb1⟩))
    go_ret
    exact ⟨_, rfl, own_base hO3 (bl_step hb1 hb2).size, bl_step (bl_step hb1 hb2) hb3⟩
theorem lastLC : ∀ t : Rx, FirC 52 lastL t
  | .set S => lastLSet S
  | .eps => lastLEps
  | .cat a b => lastLCat a b (lastLC a) (lastLC b)
  | .or a b => lastLOr a b (lastLC a) (lastLC b)
  | .star a => lastLStar a (lastLC a)
  | .plus a => lastLPlus a (lastLC a)
  | .opt a => lastLOpt a (lastLC a)

end Go.Proofs.YtlpbeieljjgbaaaGreatDoor
