/- The reference: Last. Spots in memory; the reference: inside. -/
import Derived.Test.YtgbecehggdkkmaaJ20
namespace Go.Proofs.Ytgbecehggdkkmaa
open Go.RowKit

set_option maxRecDepth 20000 in
set_option maxHeartbeats 4000000 in
theorem lastLSet (S : W4) : FirC 28 lastL (.set S) := by
  intro v l pre suf E w hA hl h hE
  obtain ⟨J, hJ, hc⟩ := root_at h
  have hle := len_le h
  have hJp : J = pre.length := by simp [post] at hJ; omega
  have hT : l.take J = pre := by rw [h, hJp]; simp
  have GS := hid (spotC v l J w hA hl (by omega))
  rw [hT] at GS
  have hnb : numS pre ≤ 60 := Nat.le_trans (numS_le pre) (by omega)
  obtain ⟨av, cv, rfl, _, _, _, hAt⟩ := hA
  obtain ⟨hjl, b', o', rfl, d0, -, -, -, -⟩ := cel_at hAt hc
  obtain rfl : E = (J : Int) := by omega
  have hjz : (J : Int) < (l.length : Int) := by omega
  simp only [rootC] at d0
  have hN := hid (World.ownsRow_nil w w.heap.size 3 1)
  show Calls Try.prog 28 _ w fun e w' => ∃ v', e = .returned v' ∧ Own w' w.heap.size v' [(numS pre : Int)] ∧ Below w.heap.size w w'
  generalize (numS pre : Int) = x at GS ⊢
  have hN1 := hid (World.ownsRow.alloc hN.out (.cells #[.int .i64 x] 3))
  clear hAt hc h hE hJ hT hJp
  go_enter Try.func28, Try.ntmps28
  go_wp2_with (first
    | (go_at_call 46; refine GS.out.mono ?_; rintro e u1 ⟨rfl, hu⟩; subst u1)
    | (at_builtin; refine wp_app _ rfl _ _ rfl w.heap.size [] [x] _ _ rfl rfl hN1.out (Nums.lit1 w x) (by simp) (by simp) ?_; intro v' w2 hO3 hb2))
  go_ret
  exact ⟨_, rfl, hO3, (al' w _).trans hb2⟩
set_option maxRecDepth 20000 in
set_option maxHeartbeats 4000000 in
theorem lastLEps : FirC 28 lastL .eps := by
  intro v l pre suf E w hA hl h hE
  obtain ⟨J, hJ, hc⟩ := root_at h
  obtain ⟨av, cv, rfl, _, _, _, hAt⟩ := hA
  obtain ⟨hjl, b', o', rfl, d0, -, -, -, -⟩ := cel_at hAt hc
  obtain rfl : E = (J : Int) := by omega
  have hjz : (J : Int) < (l.length : Int) := by omega
  simp only [rootC] at d0
  have hN := hid (World.ownsRow_nil w w.heap.size 3 1)
  clear hAt hc h hE hJ
  go_enter Try.func28, Try.ntmps28
  go_wp2
  go_ret
  exact ⟨_, rfl, hN.out, Below.refl _ _⟩
set_option maxRecDepth 20000 in
set_option maxHeartbeats 4000000 in
theorem lastLStar (a : Rx) (Ha : FirC 28 lastL a) : FirC 28 lastL (.star a) := by
  intro v l pre suf E w hA hl h hE
  obtain ⟨J, hJ, hc⟩ := root_at h
  have hle := len_le h
  have hpa := post_pos a
  have hpl : (post (.star a)).length = (post a).length + 1 := by simp [post]
  have G := hid (Ha v l pre (⟨5, noneB⟩ :: suf) (E - 1) w hA hl (by rw [h]; simp [post]) (by rw [hpl] at hE; omega))
  obtain ⟨av, cv, rfl, _, _, _, hAt⟩ := hA
  obtain ⟨hjl, b', o', rfl, d0, -, -, -, -⟩ := cel_at hAt hc
  obtain rfl : E = (J : Int) := by omega
  have hjz : (J : Int) < (l.length : Int) := by omega
  simp only [rootC] at d0
  have hJ1 : 1 ≤ J := by omega
  show Calls Try.prog 28 _ w fun e w' => ∃ v', e = .returned v' ∧ Own w' w.heap.size v' (lastL a (numS pre)) ∧ Below w.heap.size w w'
  generalize lastL a (numS pre) = la at G ⊢
  clear hAt hc h hE hJ
  go_enter Try.func28, Try.ntmps28
  go_wp2_with (go_at_call 28; refine G.out.mono ?_; rintro e w1 ⟨v1, rfl, hO1, hb1⟩)
  go_ret
  exact ⟨_, rfl, hO1, hb1⟩
set_option maxRecDepth 20000 in
set_option maxHeartbeats 4000000 in
theorem lastLPlus (a : Rx) (Ha : FirC 28 lastL a) : FirC 28 lastL (.plus a) := by
  intro v l pre suf E w hA hl h hE
  obtain ⟨J, hJ, hc⟩ := root_at h
  have hle := len_le h
  have hpa := post_pos a
  have hpl : (post (.plus a)).length = (post a).length + 1 := by simp [post]
  have G := hid (Ha v l pre (⟨6, noneB⟩ :: suf) (E - 1) w hA hl (by rw [h]; simp [post]) (by rw [hpl] at hE; omega))
  obtain ⟨av, cv, rfl, _, _, _, hAt⟩ := hA
  obtain ⟨hjl, b', o', rfl, d0, -, -, -, -⟩ := cel_at hAt hc
  obtain rfl : E = (J : Int) := by omega
  have hjz : (J : Int) < (l.length : Int) := by omega
  simp only [rootC] at d0
  have hJ1 : 1 ≤ J := by omega
  show Calls Try.prog 28 _ w fun e w' => ∃ v', e = .returned v' ∧ Own w' w.heap.size v' (lastL a (numS pre)) ∧ Below w.heap.size w w'
  generalize lastL a (numS pre) = la at G ⊢
  clear hAt hc h hE hJ
  go_enter Try.func28, Try.ntmps28
  go_wp2_with (go_at_call 28; refine G.out.mono ?_; rintro e w1 ⟨v1, rfl, hO1, hb1⟩)
  go_ret
  exact ⟨_, rfl, hO1, hb1⟩
set_option maxRecDepth 20000 in
set_option maxHeartbeats 4000000 in
theorem lastLOpt (a : Rx) (Ha : FirC 28 lastL a) : FirC 28 lastL (.opt a) := by
  intro v l pre suf E w hA hl h hE
  obtain ⟨J, hJ, hc⟩ := root_at h
  have hle := len_le h
  have hpa := post_pos a
  have hpl : (post (.opt a)).length = (post a).length + 1 := by simp [post]
  have G := hid (Ha v l pre (⟨7, noneB⟩ :: suf) (E - 1) w hA hl (by rw [h]; simp [post]) (by rw [hpl] at hE; omega))
  obtain ⟨av, cv, rfl, _, _, _, hAt⟩ := hA
  obtain ⟨hjl, b', o', rfl, d0, -, -, -, -⟩ := cel_at hAt hc
  obtain rfl : E = (J : Int) := by omega
  have hjz : (J : Int) < (l.length : Int) := by omega
  simp only [rootC] at d0
  have hJ1 : 1 ≤ J := by omega
  show Calls Try.prog 28 _ w fun e w' => ∃ v', e = .returned v' ∧ Own w' w.heap.size v' (lastL a (numS pre)) ∧ Below w.heap.size w w'
  generalize lastL a (numS pre) = la at G ⊢
  clear hAt hc h hE hJ
  go_enter Try.func28, Try.ntmps28
  go_wp2_with (go_at_call 28; refine G.out.mono ?_; rintro e w1 ⟨v1, rfl, hO1, hb1⟩)
  go_ret
  exact ⟨_, rfl, hO1, hb1⟩
set_option maxRecDepth 20000 in
set_option maxHeartbeats 4000000 in
theorem lastLOr (a b : Rx) (Ha : FirC 28 lastL a) (Hb : FirC 28 lastL b) : FirC 28 lastL (.or a b) := by
  intro v l pre suf E w hA hl h hE
  obtain ⟨J, hJ, hc⟩ := root_at h
  have hle := len_le h
  have hpa := post_pos a
  have hpb := post_pos b
  have hpl : (post (.or a b)).length = (post a).length + ((post b).length + 1) := by simp [post]
  have hsp : l = (pre ++ post a) ++ (post b ++ (⟨4, noneB⟩ :: suf)) := by rw [h]; simp [post]
  have hlp : (pre ++ post a).length = pre.length + (post a).length := by simp
  have hns : numS (pre ++ post a) = numS pre + nSets a := by rw [numS_app, numS_post]
  have hEb : E - 1 + 1 = (((pre ++ post a).length + (post b).length : Nat) : Int) := by rw [hlp]; rw [hpl] at hE; omega
  have hsa : l = pre ++ (post a ++ (post b ++ (⟨4, noneB⟩ :: suf))) := by rw [h]; simp [post]
  have hEa : (((pre ++ post a).length : Nat) : Int) - 1 + 1 = ((pre.length + (post a).length : Nat) : Int) := by rw [hlp]; omega
  have GF := hid (fun u hA => fromC v l (pre ++ post a) (⟨4, noneB⟩ :: suf) b (E - 1) u hA hl hsp hEb)
  have GA := hid (fun u hA => Ha v l pre (post b ++ (⟨4, noneB⟩ :: suf)) ((((pre ++ post a).length : Nat) : Int) - 1) u hA hl hsa hEa)
  have GB := hid (fun u hA => Hb v l (pre ++ post a) (⟨4, noneB⟩ :: suf) (E - 1) u hA hl hsp hEb)
  have EA := hid (fun u hA => emptyC a v l pre (post b ++ (⟨4, noneB⟩ :: suf)) ((((pre ++ post a).length : Nat) : Int) - 1) u hA hl hsa hEa)
  have EB := hid (fun u hA => emptyC b v l (pre ++ post a) (⟨4, noneB⟩ :: suf) (E - 1) u hA hl hsp hEb)
  have hM0 : 0 < (pre ++ post a).length := by omega
  have hM1 : (pre ++ post a).length ≤ 60 := by omega
  have hA0 := hid hA
  rw [hns] at GB
  have hla : (lastL a (numS pre)).length ≤ 60 := Nat.le_trans (lastL_len a _) (Nat.le_trans (nSets_le a) (by omega))
  have hlb : (lastL b (numS pre + nSets a)).length ≤ 60 := Nat.le_trans (lastL_len b _) (Nat.le_trans (nSets_le b) (by omega))
  obtain ⟨av, cv, rfl, _, _, _, hAt⟩ := hA
  obtain ⟨hjl, b', o', rfl, d0, -, -, -, -⟩ := cel_at hAt hc
  obtain rfl : E = (J : Int) := by omega
  have hjz : (J : Int) < (l.length : Int) := by omega
  simp only [rootC] at d0
  have hJ1 : 1 ≤ J := by omega
  have GU := hid (fun va vb u h1 h2 => refUnion va vb (lastL a (numS pre)) (lastL b (numS pre + nSets a)) u (by omega) (by omega) h1 h2)
  show Calls Try.prog 28 _ w fun e w' => ∃ v', e = .returned v' ∧ Own w' w.heap.size v' (unionL (lastL a (numS pre)) (lastL b (numS pre + nSets a))) ∧ Below w.heap.size w w'
  generalize lastL a (numS pre) = la at GA GU hla ⊢
  generalize lastL b (numS pre + nSets a) = lb at GB GU hlb ⊢
  generalize unionL la lb = lu at GU ⊢
  generalize (pre ++ post a).length = M at GF GA EA hM0 hM1
  clear hAt hc h hE hJ hsp hlp hpl hEb hsa hEa hns
  have GF0 := hid (GF.out w hA0.out)
  have GA0 := hid (GA.out w hA0.out)
  go_enter Try.func28, Try.ntmps28
  go_wp2_with (first
    | (go_at_call 29; refine GF0.out.mono ?_; rintro e u2 ⟨rfl, hu2⟩; subst u2)
    | (go_at_call 30; refine (GU.out _ _ _ (Nums.keep (Nums.of_row hO1) hb2) (Nums.of_row hO2)).mono ?_; rintro e w3 ⟨v3, rfl, hO3, hb3⟩)
    | (go_at_call 28; refine (GB.out w1 (hA0.out.keep hb1)).mono ?_; rintro e w2 ⟨v2, rfl, hO2, hb2⟩)
    | (go_at_call 28; refine GA0.out.mono ?_; rintro e w1 ⟨v1, rfl, hO1, hb1⟩))
  go_ret
  exact ⟨_, rfl, own_base hO3 (bl_step hb1 hb2).size, bl_step (bl_step hb1 hb2) hb3⟩
set_option maxRecDepth 20000 in
set_option maxHeartbeats 4000000 in
theorem lastLCat (a b : Rx) (Ha : FirC 28 lastL a) (Hb : FirC 28 lastL b) : FirC 28 lastL (.cat a b) := by
  intro v l pre suf E w hA hl h hE
  obtain ⟨J, hJ, hc⟩ := root_at h
  have hle := len_le h
  have hpa := post_pos a
  have hpb := post_pos b
  have hpl : (post (.cat a b)).length = (post a).length + ((post b).length + 1) := by simp [post]
  have hsp : l = (pre ++ post a) ++ (post b ++ (⟨3, noneB⟩ :: suf)) := by rw [h]; simp [post]
  have hlp : (pre ++ post a).length = pre.length + (post a).length := by simp
  have hns : numS (pre ++ post a) = numS pre + nSets a := by rw [numS_app, numS_post]
  have hEb : E - 1 + 1 = (((pre ++ post a).length + (post b).length : Nat) : Int) := by rw [hlp]; rw [hpl] at hE; omega
  have hsa : l = pre ++ (post a ++ (post b ++ (⟨3, noneB⟩ :: suf))) := by rw [h]; simp [post]
  have hEa : (((pre ++ post a).length : Nat) : Int) - 1 + 1 = ((pre.length + (post a).length : Nat) : Int) := by rw [hlp]; omega
  have GF := hid (fun u hA => fromC v l (pre ++ post a) (⟨3, noneB⟩ :: suf) b (E - 1) u hA hl hsp hEb)
  have GA := hid (fun u hA => Ha v l pre (post b ++ (⟨3, noneB⟩ :: suf)) ((((pre ++ post a).length : Nat) : Int) - 1) u hA hl hsa hEa)
  have GB := hid (fun u hA => Hb v l (pre ++ post a) (⟨3, noneB⟩ :: suf) (E - 1) u hA hl hsp hEb)
  have EA := hid (fun u hA => emptyC a v l pre (post b ++ (⟨3, noneB⟩ :: suf)) ((((pre ++ post a).length : Nat) : Int) - 1) u hA hl hsa hEa)
  have EB := hid (fun u hA => emptyC b v l (pre ++ post a) (⟨3, noneB⟩ :: suf) (E - 1) u hA hl hsp hEb)
  have hM0 : 0 < (pre ++ post a).length := by omega
  have hM1 : (pre ++ post a).length ≤ 60 := by omega
  have hA0 := hid hA
  rw [hns] at GB
  have hla : (lastL a (numS pre)).length ≤ 60 := Nat.le_trans (lastL_len a _) (Nat.le_trans (nSets_le a) (by omega))
  have hlb : (lastL b (numS pre + nSets a)).length ≤ 60 := Nat.le_trans (lastL_len b _) (Nat.le_trans (nSets_le b) (by omega))
  obtain ⟨av, cv, rfl, _, _, _, hAt⟩ := hA
  obtain ⟨hjl, b', o', rfl, d0, -, -, -, -⟩ := cel_at hAt hc
  obtain rfl : E = (J : Int) := by omega
  have hjz : (J : Int) < (l.length : Int) := by omega
  simp only [rootC] at d0
  have hJ1 : 1 ≤ J := by omega
  have GU := hid (fun va vb u h1 h2 => refUnion va vb (lastL b (numS pre + nSets a)) (lastL a (numS pre)) u (by omega) (by omega) h1 h2)
  show Calls Try.prog 28 _ w fun e w' => ∃ v', e = .returned v' ∧ Own w' w.heap.size v' (if b.null then unionL (lastL b (numS pre + nSets a)) (lastL a (numS pre)) else lastL b (numS pre + nSets a)) ∧ Below w.heap.size w w'
  generalize lastL a (numS pre) = la at GA GU hla ⊢
  generalize lastL b (numS pre + nSets a) = lb at GB GU hlb ⊢
  generalize unionL lb la = lu at GU ⊢
  generalize (pre ++ post a).length = M at GF GA EA hM0 hM1
  clear hAt hc h hE hJ hsp hlp hpl hEb hsa hEa hns
  cases hz : b.null with
  | false =>
    rw [hz] at EB
    simp only [Bool.false_eq_true, if_false]
    go_enter Try.func28, Try.ntmps28
    go_wp2_with (first
      | (go_at_call 29; refine (GF.out _ (by first | exact hA0.out.keep hb1 | exact hA0.out)).mono ?_; rintro e u2 ⟨rfl, hu2⟩; subst u2)
      | (go_at_call 25; refine (EB.out w1 (hA0.out.keep hb1)).mono ?_; rintro e u2 ⟨rfl, hu2⟩; subst u2)
      | (go_at_call 28; refine (GB.out w hA0.out).mono ?_; rintro e w1 ⟨v1, rfl, hO1, hb1⟩))
    go_ret
    exact ⟨_, rfl, hO1, hb1⟩
  | true =>
    rw [hz] at EB
    simp only [if_true]
    go_enter Try.func28, Try.ntmps28
    go_wp2_with (first
      | (go_at_call 29; refine (GF.out _ (by first | exact hA0.out.keep hb1 | exact hA0.out)).mono ?_; rintro e u2 ⟨rfl, hu2⟩; subst u2)
      | (go_at_call 25; refine (EB.out w1 (hA0.out.keep hb1)).mono ?_; rintro e u2 ⟨rfl, hu2⟩; subst u2)
      | (go_at_call 30; refine (GU.out _ _ _ (Nums.keep (Nums.of_row hO1) hb2) (Nums.of_row hO2)).mono ?_; rintro e w3 ⟨v3, rfl, hO3, hb3⟩)
      | (go_at_call 28; refine (GA.out w1 (hA0.out.keep hb1)).mono ?_; rintro e w2 ⟨v2, rfl, hO2, hb2⟩)
      | (go_at_call 28; refine (GB.out w hA0.out).mono ?_; rintro e w1 ⟨v1, rfl, hO1, hb1⟩))
    go_ret
    exact ⟨_, rfl, own_base hO3 (bl_step hb1 hb2).size, bl_step (bl_step hb1 hb2) hb3⟩
theorem lastLC : ∀ t : Rx, FirC 28 lastL t
  | .set S => lastLSet S
  | .eps => lastLEps
  | .cat a b => lastLCat a b (lastLC a) (lastLC b)
  | .or a b => lastLOr a b (lastLC a) (lastLC b)
  | .star a => lastLStar a (lastLC a)
  | .plus a => lastLPlus a (lastLC a)
  | .opt a => lastLOpt a (lastLC a)

end Go.Proofs.Ytgbecehggdkkmaa
namespace Go.Proofs.Ytgbecehggdkkmaa
open Go.RowKit

/-- a set lies at a place -/
def At4 (w : World) (b o : Nat) (S : W4) : Prop := w.cell? ⟨b, o, none⟩ = some (.int .u64 (S.a : Int)) ∧ w.cell? ⟨b, o + 1, none⟩ = some (.int .u64 (S.b : Int)) ∧ w.cell? ⟨b, o + 2, none⟩ = some (.int .u64 (S.c : Int)) ∧ w.cell? ⟨b, o + 3, none⟩ = some (.int .u64 (S.d : Int))
theorem At4.keep {w w' : World} {b o : Nat} {S : W4} (h : At4 w b o S) (hb : Below w.heap.size w w') : At4 w' b o S := ⟨keep_cell hb h.1, keep_cell hb h.2.1, keep_cell hb h.2.2.1, keep_cell hb h.2.2.2⟩
/-- a slice holds these sets, wherever it lies -/
def Sets (w : World) (v : Value) (l : List W4) : Prop := ∃ a cap, v = .slice a l.length cap ∧ l.length ≤ cap ∧ (a = none → cap = 0) ∧ (∀ S ∈ l, Fit4 S) ∧ ∀ j (h : j < l.length), ∃ b o, a = some ⟨b, o, none⟩ ∧ b < w.heap.size ∧ At4 w b (o + j * 4) l[j]
theorem Sets.keep {w w' : World} {v : Value} {l : List W4} (h : Sets w v l) (hb : Below w.heap.size w w') : Sets w' v l := by
  obtain ⟨a, cap, hv, hc, hn, hf, hat⟩ := h
  refine ⟨a, cap, hv, hc, hn, hf, fun j hj => ?_⟩
  obtain ⟨b, o, ha, hlt, h4⟩ := hat j hj
  exact ⟨b, o, ha, Nat.lt_of_lt_of_le hlt hb.size, h4.keep hb⟩
/-- a slice of slices of numbers -/
def Numss (w : World) (v : Value) (l : List (List Int)) : Prop := ∃ a cap, v = .slice a l.length cap ∧ l.length ≤ cap ∧ (a = none → cap = 0) ∧ ∀ j (h : j < l.length), ∃ b o x, a = some ⟨b, o, none⟩ ∧ b < w.heap.size ∧ w.cell? ⟨b, o + j, none⟩ = some x ∧ Nums w x l[j]
theorem Numss.keep {w w' : World} {v : Value} {l : List (List Int)} (h : Numss w v l) (hb : Below w.heap.size w w') : Numss w' v l := by
  obtain ⟨a, cap, hv, hc, hn, hat⟩ := h
  refine ⟨a, cap, hv, hc, hn, fun j hj => ?_⟩
  obtain ⟨b, o, x, ha, hlt, h1, h2⟩ := hat j hj
  exact ⟨b, o, x, ha, Nat.lt_of_lt_of_le hlt hb.size, keep_cell hb h1, h2.keep hb⟩
structure Sp where
  sets : List W4
  null : Bool
  first : List Int
  last : List Int
  follow : List (List Int)
/-- spots in memory: what the five fields hold -/
structure SpV (w : World) (sv fv lv gv : Value) (p : Sp) : Prop where
  sets : Sets w sv p.sets
  first : Nums w fv p.first
  last : Nums w lv p.last
  follow : Numss w gv p.follow
theorem SpV.keep {w w' : World} {sv fv lv gv : Value} {p : Sp} (h : SpV w sv fv lv gv p) (hb : Below w.heap.size w w') : SpV w' sv fv lv gv p := ⟨h.sets.keep hb, h.first.keep hb, h.last.keep hb, h.follow.keep hb⟩
def insB (l : List Int) (n : Nat) : Bool := l.all fun x => decide (0 ≤ x) && decide (x < (n : Int))
theorem ins_take {l : List Int} {n k : Nat} (h : k < l.length) : insB (l.take (k + 1)) n = (insB (l.take k) n && (decide (0 ≤ l[k]) && decide (l[k] < (n : Int)))) := by
  unfold insB
  rw [List.take_succ_eq_append_getElem h, List.all_append]
  simp
theorem ins_no {l : List Int} {n k : Nat} (h : k < l.length) (hb : (decide (0 ≤ l[k]) && decide (l[k] < (n : Int))) = false) : insB l n = false := by
  unfold insB
  rw [List.all_eq_false]
  exact ⟨l[k], List.getElem_mem h, by rw [hb]; simp⟩

set_option maxRecDepth 20000 in
set_option maxHeartbeats 2000000 in
theorem insideC (v : Value) (l : List Int) (n : Nat) (w : World) (hl : l.length ≤ 1000000) (hA : Nums w v l) :
    Calls Try.prog 37 #[v, .int .i64 (n : Int)] w fun e w' => e = .returned (.bool (insB l n)) ∧ w' = w := by
  obtain ⟨aa, ca, rfl, _, _, hA⟩ := hA
  obtain ⟨r, hr⟩ : ∃ r, Hid (insB l n = r) := ⟨_, hid rfl⟩
  have hT := hid (fun k h => @ins_take l n k h)
  have hNo := hid (fun k h => @ins_no l n k h)
  have hz : Hid (insB (l.take 0) n = true) := hid (by simp [insB])
  have hE : Hid (insB (l.take l.length) n = insB l n) := hid (by rw [List.take_length])
  rw [hr.out] at hE hNo ⊢
  have hA := hid hA
  go_enter Try.func37, Try.ntmps37
  go_wp2
  go_loopw [5] (fun i wr => ∃ k : Nat, k ≤ l.length ∧ i = .int .i64 k ∧ Hid (insB (l.take k) n = true) ∧ Hid (wr = w)) (fun i _ => l.length - (intOf i).toNat)
  case atStart => exact ⟨0, Nat.zero_le _, rfl, hz, hid rfl⟩
  case round =>
    obtain ⟨k, hk, rfl, hn, hwr⟩ := hrel
    have hwr' := hwr.out
    subst hwr'
    by_cases hlt : k < l.length
    · have hltz : (k : Int) < (l.length : Int) := by omega
      obtain ⟨b1, o1, rfl, hb1, hc1⟩ := hA.out k hlt
      have hT1 := hid (hT.out k hlt)
      have hNo1 := hid (hNo.out k hlt)
      rw [hn.out, Bool.true_and] at hT1
      generalize l[k] = x at hc1 hT1 hNo1
      by_cases h0 : x < 0
      · have hres : r = false := hNo1.out (by simp; omega)
        have hd : decide (x < 0) = true := by simpa using h0
        subst hres
        go_wp2
        go_ret
        exact ⟨rfl, rfl⟩
      · have hd : decide (x < 0) = false := by simpa using h0
        by_cases h1 : x < (n : Int)
        · have hd1 : decide ((n : Int) ≤ x) = false := by simpa using h1
          have hnle : ¬ (n : Int) ≤ x := by omega
          have hnx : Hid (insB (l.take (k + 1)) n = true) := hid (by rw [hT1.out]; simp; omega)
          go_wp2
          go_roundw
          case rel => exact ⟨k + 1, by omega, by go_num, hnx, by first | exact hid rfl | exact hid trivial⟩
          case measure => simp [intOf]; omega
        · have hd1 : decide ((n : Int) ≤ x) = true := by simp; omega
          have hle : (n : Int) ≤ x := by omega
          have hres : r = false := hNo1.out (by simp; omega)
          subst hres
          go_wp2
          go_ret
          exact ⟨rfl, rfl⟩
    · have hltz : ¬ (k : Int) < (l.length : Int) := by omega
      obtain rfl : l.length = k := by omega
      have hres : r = true := by rw [← hE.out]; exact hn.out
      subst hres
      go_wp2
      go_ret
      exact ⟨rfl, rfl⟩

end Go.Proofs.Ytgbecehggdkkmaa
