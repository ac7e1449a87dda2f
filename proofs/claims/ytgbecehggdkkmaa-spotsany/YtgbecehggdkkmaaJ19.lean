/- The contracts of topiaryref04.Union, Both, Less. A rule's spots as lists. -/
import Derived.Test.YtgbecehggdkkmaaJ18
import Derived.Test.YtgbecehggdkkmaaJ16
namespace Go.Proofs.Ytgbecehggdkkmaa
open Go.RowKit

theorem Nums.lit1 (u : World) (a : Int) : Nums (u.alloc (.cells #[.int .i64 a] 3)) (.slice (some ⟨u.heap.size, 0, none⟩) 1 1) [a] := Nums.of_row (Own.lit1 u a)
set_option maxRecDepth 20000 in
theorem numHas (v : Value) (l : List Int) (n : Int) (w : World) (hl : l.length ≤ 1000000) (hA : Nums w v l) :
    Calls Try.prog 38 #[v, .int .i64 n] w fun e w' => e = .returned (.bool (l.contains n)) ∧ w' = w := by
  obtain ⟨aa, ca, rfl, _, _, hA⟩ := hA
  obtain ⟨r, hr⟩ : ∃ r, Hid (l.contains n = r) := ⟨_, hid rfl⟩
  rw [show l.contains n = r from hr.out]
  go_enter Try.func38, Try.ntmps38
  go_wp2
  go_loop [5] (fun i => ∃ k : Nat, k ≤ l.length ∧ i = .int .i64 k ∧ ¬ n ∈ l.take k) (fun i => l.length - (intOf i).toNat)
  case atStart => exact ⟨0, Nat.zero_le _, rfl, by simp⟩
  case round =>
    obtain ⟨k, hk, rfl, hn⟩ := hrel
    by_cases hlt : k < l.length
    · have hltz : (k : Int) < (l.length : Int) := by omega
      obtain ⟨b1, o1, rfl, hb1, hc1⟩ := hA k hlt
      clear hA
      by_cases h : l[k] = n
      · have hres : r = true := by rw [← hr.out]; rw [List.contains_iff_mem, ← h]; exact List.getElem_mem hlt
        have hb : (l[k] == n) = true := beq_iff_eq.2 h
        generalize l[k] = x at hc1 hb
        clear h hn
        go_wp2
        go_ret
        exact ⟨by first | rfl | (rw [hres]; rfl), rfl⟩
      · have hn' : ¬ n ∈ l.take (k + 1) := by
          rw [List.take_succ_eq_append_getElem hlt, List.mem_append, List.mem_singleton]
          rintro (e | e)
          · exact hn e
          · exact h e.symm
        have hb : (l[k] == n) = false := beq_eq_false_iff_ne.2 h
        generalize l[k] = x at hc1 hb
        clear h hn
        go_wp2
        go_round
        case rel => exact ⟨k + 1, by omega, by go_num, hn'⟩
        case measure => simp [intOf]; omega
    · have hltz : ¬ (k : Int) < (l.length : Int) := by omega
      have hres : r = false := by
        rw [← hr.out]
        rw [List.take_of_length_le (by omega)] at hn
        rw [← Bool.not_eq_true, List.contains_iff_mem]; exact hn
      clear hA hn
      go_wp2
      go_ret
      exact ⟨by first | rfl | (rw [hres]; rfl), rfl⟩

set_option maxRecDepth 20000 in
set_option maxHeartbeats 1000000 in
theorem refUnion (va vb : Value) (la lb : List Int) (w : World) (hla : la.length ≤ 100000) (hlb : lb.length ≤ 100000) (hA : Nums w va la) (hB : Nums w vb lb) :
    Calls Try.prog 30 #[va, vb] w fun e w' => ∃ v', e = .returned v' ∧ Own w' w.heap.size v' (unionL la lb) ∧ Below w.heap.size w w' := by
  have G1 : Hid (∀ v u, Nums u v (la ++ lb) → Calls Try.prog 26 #[v] u fun e w' => ∃ v', e = .returned v' ∧ Own w' u.heap.size v' (unionL la lb) ∧ Below u.heap.size u w') := fun v u h => refOf v _ u (by rw [List.length_append]; omega) h
  have hA0 := hid hA
  have hB0 := hid hB
  have hN := hid (World.ownsRow_nil w w.heap.size 3 1)
  clear hA hB
  go_enter Try.func30, Try.ntmps30
  go_wp2_with (first
    | (at_builtin; refine wp_app _ rfl _ _ rfl w.heap.size la lb _ _ rfl rfl hO1 (hB0.out.keep hb1) (by omega) hb1.size ?_; intro v2 w2 hO2 hb2)
    | (at_builtin; refine wp_app _ rfl _ _ rfl w.heap.size [] la _ _ rfl rfl hN.out hA0.out (by simp; omega) (Nat.le_refl _) ?_; intro v1 w1 hO1 hb1)
    | (go_at_call 26; refine (G1.out _ _ (Nums.of_row hO2)).mono ?_; rintro e w3 ⟨v3, rfl, hO3, hb3⟩))
  go_ret
  exact ⟨_, rfl, own_base hO3 (hb1.trans hb2).size, bl_step (hb1.trans hb2) hb3⟩

set_option maxRecDepth 20000 in
set_option maxHeartbeats 2000000 in
theorem refBoth (va vb : Value) (la lb : List Int) (w : World) (hla : la.length ≤ 100000) (hlb : lb.length ≤ 100000) (hA : Nums w va la) (hB : Nums w vb lb) :
    Calls Try.prog 15 #[va, vb] w fun e w' => ∃ v', e = .returned v' ∧ Own w' w.heap.size v' (bothL la lb) ∧ Below w.heap.size w w' := by
  have G1 : Hid (∀ v u, Nums u v (la.filter fun n => lb.contains n) → Calls Try.prog 26 #[v] u fun e w' => ∃ v', e = .returned v' ∧ Own w' u.heap.size v' (bothL la lb) ∧ Below u.heap.size u w') := fun v u h => by
    have := refOf v _ u (Nat.le_trans (List.length_filter_le _ _) (by omega)) h
    rwa [← bothL_eq] at this
  have G2 : Hid (∀ n u, Nums u vb lb → Calls Try.prog 38 #[vb, .int .i64 n] u fun e w' => e = .returned (.bool (lb.contains n)) ∧ w' = u) := fun n u h => numHas vb lb n u (by omega) h
  obtain ⟨aa, ca, rfl, _, _, hA⟩ := hA
  have hA0 := hid hA
  have hB0 := hid hB
  clear hA hB
  go_enter Try.func15, Try.ntmps15
  go_wp2
  go_loopw [5, 6] (fun v i wr => ∃ k : Nat, k ≤ la.length ∧ i = .int .i64 k ∧ Hid (Own wr w.heap.size v ((la.take k).filter fun n => lb.contains n)) ∧ Below w.heap.size w wr) (fun _ i _ => la.length - (intOf i).toNat)
  case atStart => exact ⟨0, Nat.zero_le _, rfl, hid (World.ownsRow_nil _ _ _ _), Below.refl _ w⟩
  case round =>
    obtain ⟨k, hk, rfl, hO, hbl⟩ := hrel
    by_cases hlt : k < la.length
    · have hltz : (k : Int) < (la.length : Int) := by omega
      obtain ⟨b1, o1, rfl, hb1, hc1⟩ := hA0.out k hlt
      have hd1 := (hbl.cell hb1).trans hc1
      clear hc1
      have hNB := hid (hB0.out.keep hbl)
      have hsz := hbl.size
      have hstep : (la.take (k + 1)).filter (fun n => lb.contains n) = (la.take k).filter (fun n => lb.contains n) ++ (if lb.contains la[k] then [la[k]] else []) := by
        rw [List.take_succ_eq_append_getElem hlt, List.filter_append]
        congr 1
        rw [List.filter_cons, List.filter_nil]
      have hstep := hid hstep
      have hlen : ((la.take k).filter fun n => lb.contains n).length ≤ k := Nat.le_trans (List.length_filter_le _ _) (by rw [List.length_take]; omega)
      have hlen := hid hlen
      have G2' := hid (G2.out la[k] wr hNB.out)
      generalize la[k] = x at hd1 hstep G2'
      cases hr : lb.contains x with
      | true =>
        rw [hr] at G2' hstep
        have hO2 := hid (World.ownsRow.alloc hO.out (.cells #[.int .i64 x] 3))
        go_wp2_with (first
          | (at_builtin; refine wp_app _ rfl _ _ rfl w.heap.size _ [x] _ _ rfl rfl hO2.out (Nums.lit1 wr x) (by have := hlen.out; simp only [List.length_singleton]; omega) (by simp; omega) ?_; intro v' w2 hO3 hb2)
          | (go_at_call 38; refine (G2'.out).mono ?_; rintro e wz ⟨rfl, hwz⟩; subst wz))
        go_wp2
        go_roundw
        case rel => exact ⟨k + 1, by omega, by go_num, by rw [hstep.out]; exact hid hO3, (hbl.alloc hsz _).trans hb2⟩
        case measure => simp [intOf]; omega
      | false =>
        rw [hr] at G2' hstep
        go_wp2_with (go_at_call 38; refine (G2'.out).mono ?_; rintro e wz ⟨rfl, hwz⟩; subst wz)
        go_roundw
        case rel => exact ⟨k + 1, by omega, by go_num, by rw [hstep.out]; simpa using hO, hbl⟩
        case measure => simp [intOf]; omega
    · have hltz : ¬ (k : Int) < (la.length : Int) := by omega
      have hO1 : Hid (Own wr w.heap.size u5 (la.filter fun n => lb.contains n)) := by
        have := hO.out
        rw [List.take_of_length_le (by omega)] at this
        exact hid this
      have hsz := hbl.size
      go_wp2_with (go_at_call 26; refine (G1.out _ _ (Nums.of_row hO1.out)).mono ?_; rintro e w2 ⟨v2, rfl, hO2, hb2⟩)
      go_ret
      exact ⟨_, rfl, own_base hO2 hsz, bl_step hbl hb2⟩

end Go.Proofs.Ytgbecehggdkkmaa
namespace Go.Proofs.Ytgbecehggdkkmaa
open Go.RowKit

/-- how many of the cells are spots -/
def numS (l : List Cel) : Nat := l.countP fun c => c.op == 1
theorem numS_app (l m : List Cel) : numS (l ++ m) = numS l + numS m := List.countP_append
theorem numS_le (l : List Cel) : numS l ≤ l.length := List.countP_le_length
theorem numS_post : ∀ t : Rx, numS (post t) = nSets t
  | .set _ => rfl
  | .eps => rfl
  | .cat a b => by simp only [post, numS_app, numS_post a, numS_post b, nSets]; rfl
  | .or a b => by simp only [post, numS_app, numS_post a, numS_post b, nSets]; rfl
  | .star a => by simp only [post, numS_app, numS_post a, nSets]; rfl
  | .plus a => by simp only [post, numS_app, numS_post a, nSets]; rfl
  | .opt a => by simp only [post, numS_app, numS_post a, nSets]; rfl
theorem numS_take (l : List Cel) (k : Nat) (h : k < l.length) : numS (l.take (k + 1)) = numS (l.take k) + (if l[k].op = 1 then 1 else 0) := by
  rw [List.take_succ_eq_append_getElem h, numS_app]
  congr 1
  unfold numS
  rw [List.countP_cons, List.countP_nil]
  simp
/-- the spots with which a way begins, and ends -/
def firstL : Rx → Nat → List Int
  | .set _, n => [(n : Int)]
  | .eps, _ => []
  | .cat a b, n => if a.null then unionL (firstL a n) (firstL b (n + nSets a)) else firstL a n
  | .or a b, n => unionL (firstL a n) (firstL b (n + nSets a))
  | .star a, n => firstL a n
  | .plus a, n => firstL a n
  | .opt a, n => firstL a n
def lastL : Rx → Nat → List Int
  | .set _, n => [(n : Int)]
  | .eps, _ => []
  | .cat a b, n => if b.null then unionL (lastL b (n + nSets a)) (lastL a n) else lastL b (n + nSets a)
  | .or a b, n => unionL (lastL a n) (lastL b (n + nSets a))
  | .star a, n => lastL a n
  | .plus a, n => lastL a n
  | .opt a, n => lastL a n
theorem firstL_len : ∀ (t : Rx) (n : Nat), (firstL t n).length ≤ nSets t
  | .set _, _ => Nat.le_refl _
  | .eps, _ => Nat.le_refl _
  | .cat a b, n => by
    have h1 := firstL_len a n
    have h2 := firstL_len b (n + nSets a)
    have h3 := unionL_len (firstL a n) (firstL b (n + nSets a))
    show (firstL (.cat a b) n).length ≤ nSets a + nSets b
    rw [firstL]
    split <;> omega
  | .or a b, n => by
    have h1 := firstL_len a n
    have h2 := firstL_len b (n + nSets a)
    have h3 := unionL_len (firstL a n) (firstL b (n + nSets a))
    show (unionL (firstL a n) (firstL b (n + nSets a))).length ≤ nSets a + nSets b
    omega
  | .star a, n => firstL_len a n
  | .plus a, n => firstL_len a n
  | .opt a, n => firstL_len a n
theorem lastL_len : ∀ (t : Rx) (n : Nat), (lastL t n).length ≤ nSets t
  | .set _, _ => Nat.le_refl _
  | .eps, _ => Nat.le_refl _
  | .cat a b, n => by
    have h1 := lastL_len a n
    have h2 := lastL_len b (n + nSets a)
    have h3 := unionL_len (lastL b (n + nSets a)) (lastL a n)
    show (lastL (.cat a b) n).length ≤ nSets a + nSets b
    rw [lastL]
    split <;> omega
  | .or a b, n => by
    have h1 := lastL_len a n
    have h2 := lastL_len b (n + nSets a)
    have h3 := unionL_len (lastL a n) (lastL b (n + nSets a))
    show (unionL (lastL a n) (lastL b (n + nSets a))).length ≤ nSets a + nSets b
    omega
  | .star a, n => lastL_len a n
  | .plus a, n => lastL_len a n
  | .opt a, n => lastL_len a n
theorem nSets_le : ∀ t : Rx, nSets t ≤ (post t).length := fun t => by rw [← numS_post]; exact numS_le _
theorem firstL_up : ∀ (t : Rx) (n : Nat), Up (firstL t n)
  | .set _, _ => List.pairwise_singleton _ _
  | .eps, _ => List.Pairwise.nil
  | .cat a b, n => by
    unfold firstL
    split
    · exact ofL_up _
    · exact firstL_up a n
  | .or _ _, _ => ofL_up _
  | .star a, n => firstL_up a n
  | .plus a, n => firstL_up a n
  | .opt a, n => firstL_up a n
theorem lastL_up : ∀ (t : Rx) (n : Nat), Up (lastL t n)
  | .set _, _ => List.pairwise_singleton _ _
  | .eps, _ => List.Pairwise.nil
  | .cat a b, n => by
    unfold lastL
    split
    · exact ofL_up _
    · exact lastL_up b _
  | .or _ _, _ => ofL_up _
  | .star a, n => lastL_up a n
  | .plus a, n => lastL_up a n
  | .opt a, n => lastL_up a n
theorem firstL_mem : ∀ (t : Rx) (n : Nat) (x : Int), x ∈ firstL t n ↔ ∃ k : Nat, x = (k : Int) ∧ Fst t n k
  | .set S, n, x => by simp [firstL, Fst]
  | .eps, n, x => by simp [firstL, Fst]
  | .cat a b, n, x => by
    simp only [firstL, Fst]
    split
    · rename_i h
      rw [unionL_mem, firstL_mem a n x, firstL_mem b _ x]
      constructor
      · rintro (⟨k, h1, h2⟩ | ⟨k, h1, h2⟩)
        · exact ⟨k, h1, Or.inl h2⟩
        · exact ⟨k, h1, Or.inr ⟨h, h2⟩⟩
      · rintro ⟨k, h1, h2 | h2⟩
        · exact Or.inl ⟨k, h1, h2⟩
        · exact Or.inr ⟨k, h1, h2.2⟩
    · rename_i h
      rw [firstL_mem a n x]
      simp [h]
  | .or a b, n, x => by
    simp only [firstL, Fst]
    rw [unionL_mem, firstL_mem a n x, firstL_mem b _ x]
    constructor
    · rintro (⟨k, h1, h2⟩ | ⟨k, h1, h2⟩)
      · exact ⟨k, h1, Or.inl h2⟩
      · exact ⟨k, h1, Or.inr h2⟩
    · rintro ⟨k, h1, h2 | h2⟩
      · exact Or.inl ⟨k, h1, h2⟩
      · exact Or.inr ⟨k, h1, h2⟩
  | .star a, n, x => firstL_mem a n x
  | .plus a, n, x => firstL_mem a n x
  | .opt a, n, x => firstL_mem a n x
theorem lastL_mem : ∀ (t : Rx) (n : Nat) (x : Int), x ∈ lastL t n ↔ ∃ k : Nat, x = (k : Int) ∧ Lst t n k
  | .set S, n, x => by simp [lastL, Lst]
  | .eps, n, x => by simp [lastL, Lst]
  | .cat a b, n, x => by
    simp only [lastL, Lst]
    split
    · rename_i h
      rw [unionL_mem, lastL_mem a n x, lastL_mem b _ x]
      constructor
      · rintro (⟨k, h1, h2⟩ | ⟨k, h1, h2⟩)
        · exact ⟨k, h1, Or.inl h2⟩
        · exact ⟨k, h1, Or.inr ⟨h, h2⟩⟩
      · rintro ⟨k, h1, h2 | h2⟩
        · exact Or.inl ⟨k, h1, h2⟩
        · exact Or.inr ⟨k, h1, h2.2⟩
    · rename_i h
      rw [lastL_mem b _ x]
      simp [h]
  | .or a b, n, x => by
    simp only [lastL, Lst]
    rw [unionL_mem, lastL_mem a n x, lastL_mem b _ x]
    constructor
    · rintro (⟨k, h1, h2⟩ | ⟨k, h1, h2⟩)
      · exact ⟨k, h1, Or.inl h2⟩
      · exact ⟨k, h1, Or.inr h2⟩
    · rintro ⟨k, h1, h2 | h2⟩
      · exact Or.inl ⟨k, h1, h2⟩
      · exact Or.inr ⟨k, h1, h2⟩
  | .star a, n, x => lastL_mem a n x
  | .plus a, n, x => lastL_mem a n x
  | .opt a, n, x => lastL_mem a n x

end Go.Proofs.Ytgbecehggdkkmaa
