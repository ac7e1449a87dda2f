/- spots.behind. The maths of spots.Fits. -/
import Derived.Test.YtgbecehggdkkmaaJ35
namespace Go.Proofs.Ytgbecehggdkkmaa
open Go.RowKit

/-- one more, if it isn't there -/
def addL (acc : List Int) (x : Int) : List Int := if x ∈ acc then acc else acc ++ [x]
def addsL (acc l : List Int) : List Int := l.foldl addL acc
def behL (fl : List (List Int)) (l : List Int) : List Int := l.foldl (fun acc x => addsL acc (fl.getD x.toNat [])) []
theorem addL_mem (acc : List Int) (x y : Int) : y ∈ addL acc x ↔ y ∈ acc ∨ y = x := by
  unfold addL
  split
  · rename_i h
    constructor
    · exact Or.inl
    · rintro (h' | rfl)
      · exact h'
      · exact h
  · simp
theorem addsL_mem : ∀ (l acc : List Int) (y : Int), y ∈ addsL acc l ↔ y ∈ acc ∨ y ∈ l
  | [], acc, y => by simp [addsL]
  | x :: l, acc, y => by
    show y ∈ addsL (addL acc x) l ↔ _
    rw [addsL_mem l, addL_mem, List.mem_cons, or_assoc]
theorem behs_mem (fl : List (List Int)) : ∀ (l acc : List Int) (y : Int), y ∈ l.foldl (fun acc x => addsL acc (fl.getD x.toNat [])) acc ↔ y ∈ acc ∨ ∃ x ∈ l, y ∈ fl.getD x.toNat []
  | [], acc, y => by simp
  | x :: l, acc, y => by
    rw [List.foldl_cons, behs_mem fl l, addsL_mem, or_assoc]
    simp
theorem behL_mem (fl : List (List Int)) (l : List Int) (y : Int) : y ∈ behL fl l ↔ ∃ x ∈ l, y ∈ fl.getD x.toNat [] := by
  unfold behL
  rw [behs_mem]
  simp
theorem addL_nodup {acc : List Int} (h : acc.Nodup) (x : Int) : (addL acc x).Nodup := by
  unfold addL
  split
  · exact h
  · rename_i hx
    rw [List.nodup_append]
    refine ⟨h, by simp, fun a ha b hb => ?_⟩
    simp at hb
    subst hb
    exact fun e => hx (e ▸ ha)
theorem addsL_nodup : ∀ (l acc : List Int), acc.Nodup → (addsL acc l).Nodup
  | [], _, h => h
  | x :: l, acc, h => addsL_nodup l (addL acc x) (addL_nodup h x)
theorem behs_nodup (fl : List (List Int)) : ∀ (l acc : List Int), acc.Nodup → (l.foldl (fun acc x => addsL acc (fl.getD x.toNat [])) acc).Nodup
  | [], _, h => h
  | _ :: l, acc, h => behs_nodup fl l _ (addsL_nodup _ acc h)
theorem ins_new (x : Int) : ∀ l : List Int, ¬ x ∈ l → (ins x l).length = l.length + 1
  | [], _ => rfl
  | y :: l, h => by
    unfold ins
    split
    · rfl
    · split
      · rename_i h1 h2
        exact absurd (by simp [h2]) h
      · have := ins_new x l (fun h' => h (List.mem_cons_of_mem _ h'))
        simp [this]
theorem ofL_nodup : ∀ l : List Int, l.Nodup → (ofL l).length = l.length
  | [], _ => rfl
  | x :: l, h => by
    rw [List.nodup_cons] at h
    have ih := ofL_nodup l h.2
    show (ins x (ofL l)).length = _
    rw [ins_new x _ (fun h' => h.1 ((ofL_mem x l).1 h')), ih]
    rfl
theorem nodup_len {l : List Int} {n : Nat} (h : l.Nodup) (hi : InN l n) : l.length ≤ n := by
  rw [← ofL_nodup l h]
  exact inN_len (ofL_up l) fun x hx => hi x ((ofL_mem x l).1 hx)
/-- the marks of those that are there -/
def metL (n : Nat) (acc : List Int) : List Bool := (List.range n).map fun j : Nat => acc.contains (j : Int)
theorem metL_len (n : Nat) (acc : List Int) : (metL n acc).length = n := by simp [metL]
theorem metL_nil (n : Nat) : metL n [] = List.replicate n false := by
  apply List.ext_getElem
  · simp [metL]
  · intro i h1 h2
    simp [metL]
theorem metL_at {n : Nat} {acc : List Int} {m : Nat} (h : m < n) : (metL n acc)[m]? = some (acc.contains (m : Int)) := by
  unfold metL
  rw [List.getElem?_map, List.getElem?_range h]
  rfl
theorem metL_set (n : Nat) (acc : List Int) (m : Nat) : (metL n acc).set m true = metL n (acc ++ [(m : Int)]) := by
  apply List.ext_getElem
  · simp [metL]
  · intro i h1 h2
    rw [List.getElem_set]
    simp only [metL, List.getElem_map, List.getElem_range]
    split
    · rename_i e
      subst e
      simp
    · rename_i e
      have e' : ¬ (i : Int) = (m : Int) := by omega
      rw [Bool.eq_iff_iff]
      simp [e']
theorem adds_take {acc l : List Int} {k : Nat} (h : k < l.length) : addsL acc (l.take (k + 1)) = addL (addsL acc (l.take k)) l[k] := by
  unfold addsL
  rw [List.take_succ_eq_append_getElem h, List.foldl_append]
  rfl
theorem beh_take {fl : List (List Int)} {l : List Int} {k : Nat} (h : k < l.length) : behL fl (l.take (k + 1)) = addsL (behL fl (l.take k)) (fl.getD l[k].toNat []) := by
  unfold behL
  rw [List.take_succ_eq_append_getElem h, List.foldl_append]
  rfl
theorem addL_yes {acc : List Int} {x : Int} (h : acc.contains x = true) : addL acc x = acc := if_pos (List.contains_iff_mem.1 h)
theorem addL_no {acc : List Int} {x : Int} (h : acc.contains x = false) : addL acc x = acc ++ [x] := if_neg (fun h' => by rw [List.contains_iff_mem.2 h'] at h; cases h)

set_option maxRecDepth 20000 in
set_option maxHeartbeats 4000000 in
theorem behindC (sv fv lv gv nv v : Value) (p : Sp) (l : List Int) (w : World) (hS : Sets w sv p.sets) (hG : Numss w gv p.follow) (hN : Nums w v l) (hi : InN l p.sets.length) (hs : p.sets.length ≤ 60) (hg : p.follow.length = p.sets.length) (hin : ∀ q ∈ p.follow, InN q p.sets.length) (h5 : ∀ q ∈ p.follow, q.length ≤ 100) (hl : l.length ≤ 1000) :
    Calls Try.prog 34 #[.agg #[sv, nv, fv, lv, gv], v] w fun e w' => ∃ v', e = .returned v' ∧ Own w' w.heap.size v' (behL p.follow l) ∧ Below w.heap.size w w' := by
  have hGk := hid hG
  have hNk := hid (fun u (hu : Below w.heap.size w u) => hN.keep hu)
  have hi' := hid (fun k (h : k < l.length) => hi l[k] (List.getElem_mem h))
  have hinD : Hid (∀ m, InN (p.follow.getD m []) p.sets.length ∧ (p.follow.getD m []).length ≤ 100) := hid (fun m => by
    rw [List.getD_eq_getElem?_getD]
    by_cases h : m < p.follow.length
    · rw [List.getElem?_eq_getElem h]
      exact ⟨hin _ (List.getElem_mem h), h5 _ (List.getElem_mem h)⟩
    · rw [List.getElem?_eq_none (by omega)]
      exact ⟨fun x hx => absurd hx (List.not_mem_nil), by simp⟩)
  have hBt := hid (fun k h => @beh_take p.follow l k h)
  have hE : Hid (behL p.follow (l.take l.length) = behL p.follow l) := hid (by rw [List.take_length])
  have hZ : Hid (behL p.follow (l.take 0) = []) := hid rfl
  have hnd : Hid (∀ k, (behL p.follow (l.take k)).Nodup ∧ InN (behL p.follow (l.take k)) p.sets.length) := hid (fun k => ⟨behs_nodup _ _ _ List.nodup_nil, fun y hy => by
    obtain ⟨x, _, hx⟩ := (behL_mem _ _ y).1 hy
    exact (hinD.out _).1 y hx⟩)
  obtain ⟨sa, sc, rfl⟩ : ∃ a c, sv = .slice a p.sets.length c := by obtain ⟨a, c, e, _⟩ := hS; exact ⟨a, c, e⟩
  obtain ⟨va, vc, rfl⟩ : ∃ a c, v = .slice a l.length c := by obtain ⟨a, c, e, _⟩ := hN; exact ⟨a, c, e⟩
  obtain ⟨ga, gc, rfl⟩ : ∃ a c, gv = .slice a p.follow.length c := by obtain ⟨a, c, e, _⟩ := hG; exact ⟨a, c, e⟩
  have hg' := hid hg
  rw [hg]
  rw [hg] at hGk
  have hal := hid (al' w (.cells #[.slice sa p.sets.length sc, nv, fv, lv, .slice ga p.sets.length gc] 27))
  have hC0 := hid (heap_new w (.cells #[.slice sa p.sets.length sc, nv, fv, lv, .slice ga p.sets.length gc] 27))
  clear hS hG hN hi hin h5 hg
  obtain ⟨N, hNN⟩ : ∃ N, Hid (N = p.sets.length) := ⟨_, hid rfl⟩
  rw [← hNN.out] at hs hal hC0 hGk hi' hinD hnd ⊢
  have hmk := run_make_row' (P := Try.prog) 63 4 (.bool false) 1 Try.underlying63 Try.info4 rfl .i64 .i64 N (by omega) (by omega)
  obtain ⟨W1, hW1⟩ : ∃ W1, W1 = w.alloc (.cells #[.slice sa N sc, nv, fv, lv, .slice ga N gc] 27) := ⟨_, rfl⟩
  rw [← hW1] at hal hC0
  have hO0 := own_made0 W1 N (fun _ => false) (by omega)
  rw [tabK_zero, ← metL_nil] at hO0
  have hO0 := hid hO0
  have hal2 := hid (al' W1 (.cells (madeCells #[.bool false] N) 4))
  have hn0 := hid (World.ownsRow_nil (W1.alloc (.cells (madeCells #[.bool false] N) 4)) (W1.heap.size + 1) 3 1)
  have hq : w.heap.size < W1.heap.size := by rw [hW1]; simp
  have hsz : Hid (W1.heap.size + 1 ≤ (W1.alloc (.cells (madeCells #[.bool false] N) 4)).heap.size) := hid (by simp)
  go_enter Try.func34, Try.ntmps34
  have hmb : W1.heap.size = w.heap.size + 1 := by rw [hW1]; simp
  rw [hmb] at hO0 hn0 hsz hal2 hq
  have hst : Hid (∀ u, Below (w.heap.size + 1) W1 u → Below w.heap.size w u ∧ Below W1.heap.size W1 u) := hid (fun u h => by
    rw [← hmb] at h
    exact ⟨bl_step hal.out h, h⟩)
  go_wp2
  rw [← hW1]
  clear hW1 hmk hmb
  generalize w.heap.size + 1 = mb at *
  go_loopw [6, 17] (fun xv i wr => ∃ k : Nat, k ≤ l.length ∧ i = .int .i64 k ∧ Hid (OwnT wr mb (.slice (some ⟨mb, 0, none⟩) N N) (metL N (behL p.follow (l.take k)))) ∧ Hid (Own wr (mb + 1) xv (behL p.follow (l.take k))) ∧ Below mb W1 wr) (fun _ i _ => l.length - (intOf i).toNat)
  case atStart => exact ⟨0, Nat.zero_le _, rfl, hid (by rw [hZ.out]; exact hO0.out), hid (by rw [hZ.out]; exact hn0.out), hal2.out⟩
  case round =>
    obtain ⟨k, hk, rfl, hT, hO, hbl⟩ := hrel
    by_cases hlt : k < l.length
    · have hltz : (k : Int) < (l.length : Int) := by omega
      have hblw := (hst.out _ hbl).1
      obtain ⟨_, _, e0, _, _, hat⟩ := hNk.out wr hblw
      cases e0
      obtain ⟨b1, o1, rfl, hb1, c1⟩ := hat k hlt
      obtain ⟨h0, h1⟩ := hi'.out k hlt
      have hBt1 := hid (hBt.out k hlt)
      obtain ⟨m, hm⟩ : ∃ m : Nat, l[k] = (m : Int) := ⟨l[k].toNat, by omega⟩
      rw [hm] at c1 h1 hBt1
      simp only [Int.toNat_natCast] at hBt1
      have hmf : m < p.follow.length := by rw [hg'.out, ← hNN.out]; omega
      obtain ⟨gb, go, gx, rfl, hgb, g0', hgx⟩ := numss_at hGk.out hmf
      have g0 := keep_cell hblw g0'
      clear g0'
      obtain ⟨p0, -, -, -, p4, -⟩ := cells5s (hs_keep hC0.out (hst.out _ hbl).2)
      have hin1 := hid (hinD.out m)
      have hnd1 := hid (hnd.out k)
      generalize p.follow.getD m [] = R at hBt1 hgx hin1
      generalize hAcc : behL p.follow (l.take k) = A at hT hO hBt1 hnd1
      have hRl := hin1.out.2
      have hRk := hid (fun u (hu : Below w.heap.size w u) => hgx.keep hu)
      obtain ⟨ra, rc, rfl⟩ : ∃ a c, gx = .slice a R.length c := by obtain ⟨a, c, e, _⟩ := hgx; exact ⟨a, c, e⟩
      have hTk := hid (fun q h => @adds_take A R q h)
      have hEk : Hid (addsL A (R.take R.length) = addsL A R) := hid (by rw [List.take_length])
      have hnk : Hid (∀ q, (addsL A (R.take q)).length ≤ 60) := hid (fun q => Nat.le_trans (nodup_len (addsL_nodup _ _ hnd1.out.1) (fun y hy => by
        rcases (addsL_mem _ _ y).1 hy with hy | hy
        · exact hnd1.out.2 y hy
        · exact hin1.out.1 y (List.mem_of_mem_take hy))) hs)
      have hRi := hid (fun q (h : q < R.length) => hin1.out.1 R[q] (List.getElem_mem h))
      clear hat hgx hAcc
      obtain ⟨wo, hwo⟩ : ∃ y, y = wr := ⟨_, rfl⟩
      subst hwo
      have hmz : (m : Int) < (N : Int) := h1
      go_wp2
      go_loopw [6, 27] (fun xv i wr => ∃ q : Nat, q ≤ R.length ∧ i = .int .i64 q ∧ Hid (OwnT wr mb (.slice (some ⟨mb, 0, none⟩) N N) (metL N (addsL A (R.take q)))) ∧ Hid (Own wr (mb + 1) xv (addsL A (R.take q))) ∧ Below mb W1 wr) (fun _ i _ => R.length - (intOf i).toNat)
      case atStart => exact ⟨0, Nat.zero_le _, rfl, hT, hO, hbl⟩
      case round =>
        obtain ⟨q, hq', rfl, hT2, hO2, hbl2⟩ := hrel
        by_cases hql : q < R.length
        · have hqz : (q : Int) < (R.length : Int) := by omega
          have hblw2 := (hst.out _ hbl2).1
          obtain ⟨_, _, e0, _, _, hat⟩ := hRk.out wr hblw2
          cases e0
          obtain ⟨b2, o2, rfl, hb2, c2⟩ := hat q hql
          obtain ⟨hz0, hz1⟩ := hRi.out q hql
          have hT1 := hid (hTk.out q hql)
          obtain ⟨z, hz⟩ : ∃ z : Nat, R[q] = (z : Int) := ⟨R[q].toNat, by omega⟩
          rw [hz] at c2 hz1 hT1
          have hzn : z < N := by omega
          have hl60 := hnk.out q
          have n0 := OwnT.at hT2.out (metL_at (acc := addsL A (R.take q)) hzn)
          have n1 := OwnT.free hT2.out (by rw [metL_len]) z
          have hyes := hid (fun h => @addL_yes (addsL A (R.take q)) (z : Int) h)
          have hno := hid (fun h => @addL_no (addsL A (R.take q)) (z : Int) h)
          generalize hB : addsL A (R.take q) = B at hT2 hO2 hT1 n0 hl60 hyes hno
          generalize B.contains (z : Int) = r at n0 hyes hno
          clear hat hB hz hz0
          cases r with
          | true =>
            have hT3 : Hid (addsL A (R.take (q + 1)) = B) := hid (by rw [hT1.out, hyes.out rfl])
            go_wp2
            go_roundw
            case rel => exact ⟨q + 1, by omega, by go_num, hid (by rw [hT3.out]; exact hT2.out), hid (by rw [hT3.out]; exact hO2.out), hbl2⟩
            case measure => simp [intOf]; omega
          | false =>
            have hT3 : Hid (addsL A (R.take (q + 1)) = B ++ [(z : Int)]) := hid (by rw [hT1.out, hno.out rfl])
            have hM1 : Hid (OwnT (wr.setCell ⟨mb, z, none⟩ (.bool true)) mb (.slice (some ⟨mb, 0, none⟩) N N) (metL N (B ++ [(z : Int)]))) := hid (by
              rw [← metL_set]
              exact OwnT.put_n true hT2.out (by rw [metL_len]))
            have hx1 : Hid (Own (wr.setCell ⟨mb, z, none⟩ (.bool true)) (mb + 1) u6 B) := hid (own_keep hO2.out (fun k hk => Below.heap_setCell _ _ _ _ (by have h := (hO2.out.lt k hk).1; simp; omega)))
            have hbs := hid (bl_set hbl2 mb z (.bool true) (Nat.le_refl _))
            have hwb : mb + 1 ≤ wr.heap.size := Nat.succ_le_of_lt (hT2.out.lt mb rfl).2
            go_wp2_with (at_builtin; refine wp_app _ rfl _ _ rfl (mb + 1) B [(z : Int)] _ _ rfl rfl (hx1.out.alloc _) (by have h := Nums.lit1 (wr.setCell ⟨mb, z, none⟩ (.bool true)) (z : Int); rw [set_size] at h; exact h) (by simp; omega) (by simp; omega) ?_; intro v' w2 hO3 hb3)
            go_roundw
            case rel => exact ⟨q + 1, by omega, by go_num, hid (by rw [hT3.out]; exact own_keep (hM1.out.alloc _) (fun k hk => hb3.block k (by (have e : mb = k := (by injection hk)); omega))), hid (by rw [hT3.out]; exact hO3), (bstep hbs.out (al' _ _) (by simp; omega)).trans (hb3.mono (by omega))⟩
            case measure => simp [intOf]; omega
        · have hqz : ¬ (q : Int) < (R.length : Int) := by omega
          obtain rfl : q = R.length := by omega
          rw [hEk.out, ← hBt1.out] at hT2 hO2
          go_wp2
          go_roundw
          case rel => exact ⟨k + 1, by omega, by go_num, hT2, hO2, hbl2⟩
          case measure => simp [intOf]; omega
    · have hltz : ¬ (k : Int) < (l.length : Int) := by omega
      obtain rfl : k = l.length := by omega
      rw [hE.out] at hO
      go_wp2
      go_ret
      exact ⟨_, rfl, own_base hO.out (by omega), (hst.out _ hbl).1⟩

end Go.Proofs.Ytgbecehggdkkmaa
namespace Go.Proofs.Ytgbecehggdkkmaa
open Go.RowKit

/-- the spots that are read behind i bytes, as lists -/
def rdK (p : Sp) (s : Txt) : Nat → List Int
  | 0 => []
  | i + 1 => havL p.sets (s.getD i 0).toNat (if i = 0 then ofL p.first else behL p.follow (rdK p s i))
theorem rdK_one (p : Sp) (s : Txt) : rdK p s 1 = havL p.sets (s.getD 0 0).toNat (ofL p.first) := rfl
theorem rdK_succ (p : Sp) (s : Txt) (i : Nat) (h : 0 < i) : rdK p s (i + 1) = havL p.sets (s.getD i 0).toNat (behL p.follow (rdK p s i)) := by
  rw [rdK, if_neg (by omega)]
theorem havL_mem {S : List W4} {b : Nat} {l : List Int} {x : Int} : x ∈ havL S b l ↔ x ∈ l ∧ hasB (S.getD x.toNat noneB) b = true := by
  unfold havL
  rw [List.mem_filter]
theorem insB_in {l : List Int} {n : Nat} (h : insB l n = true) : InN l n := fun x hx => by
  unfold insB at h
  rw [List.all_eq_true] at h
  have := h x hx
  simp at this
  exact this
structure GdS (p : Sp) : Prop where
  len : p.follow.length = p.sets.length
  first : InN p.first p.sets.length
  last : InN p.last p.sets.length
  follow : ∀ q ∈ p.follow, InN q p.sets.length
theorem GdS.of {p : Sp} (h : goodB p = true) : GdS p := by
  unfold goodB at h
  simp only [Bool.and_eq_true, decide_eq_true_eq] at h
  obtain ⟨⟨⟨h1, h2⟩, h3⟩, h4⟩ := h
  exact ⟨h1, insB_in h2, insB_in h3, fun q hq => insB_in (by rw [List.all_eq_true] at h4; exact h4 q hq)⟩
theorem GdS.foll {p : Sp} (h : GdS p) (m : Nat) : InN (p.follow.getD m []) p.sets.length := by
  rw [List.getD_eq_getElem?_getD]
  by_cases hm : m < p.follow.length
  · rw [List.getElem?_eq_getElem hm]; exact h.follow _ (List.getElem_mem hm)
  · rw [List.getElem?_eq_none (by omega)]; exact fun x hx => absurd hx (List.not_mem_nil)
theorem behL_in {p : Sp} (h : GdS p) (l : List Int) : InN (behL p.follow l) p.sets.length := fun y hy => by
  obtain ⟨x, _, hx⟩ := (behL_mem _ _ y).1 hy
  exact h.foll _ y hx
theorem rdK_in {p : Sp} (h : GdS p) (s : Txt) : ∀ i, InN (rdK p s i) p.sets.length
  | 0 => fun x hx => absurd hx (List.not_mem_nil)
  | i + 1 => fun x hx => by
    rw [rdK] at hx
    have hx := (havL_mem.1 hx).1
    split at hx
    · exact h.first x ((ofL_mem x _).1 hx)
    · exact behL_in h _ x hx
theorem behL_len {p : Sp} (h : GdS p) (l : List Int) : (behL p.follow l).length ≤ p.sets.length := nodup_len (behs_nodup _ _ _ List.nodup_nil) (behL_in h l)
theorem rdK_len {p : Sp} (h : GdS p) (s : Txt) (hf : p.first.length ≤ 100) (hs : p.sets.length ≤ 60) : ∀ i, (rdK p s i).length ≤ 100
  | 0 => by simp [rdK]
  | i + 1 => by
    rw [rdK]
    refine Nat.le_trans (hav_len _ _ _) ?_
    split
    · exact Nat.le_trans (ofL_len _) hf
    · exact Nat.le_trans (behL_len h _) (by omega)
theorem rdK_none {p : Sp} {s : Txt} {i : Nat} (hi : 0 < i) (h : rdK p s i = []) : ∀ d, rdK p s (i + d) = []
  | 0 => h
  | d + 1 => by
    show rdK p s (i + d + 1) = []
    rw [rdK_succ p s (i + d) (by omega), rdK_none hi h d]
    rfl
theorem on_get (p : Sp) (s : Txt) (i k : Nat) : (onK p s (i + 1)).getD k false = true ↔ k < p.sets.length ∧ mayK p i (onK p s i) k p.sets.length = true ∧ hasB (p.sets.getD k noneB) (s.getD i 0).toNat = true := by
  rw [onK, List.getD_eq_getElem?_getD]
  by_cases hk : k < p.sets.length
  · rw [tabK_at (Nat.le_refl _) hk]
    simp only [Option.getD_some, nextF, Bool.and_eq_true, hk, true_and]
  · rw [List.getElem?_eq_none (by rw [tabK_len]; omega)]
    simp [hk]
theorem rdK_on {p : Sp} (h : GdS p) (s : Txt) : ∀ i k : Nat, (k : Int) ∈ rdK p s (i + 1) ↔ (onK p s (i + 1)).getD k false = true
  | 0, k => by
    rw [on_get, rdK_one, havL_mem, ofL_mem, Int.toNat_natCast]
    have e : mayK p 0 (onK p s 0) k p.sets.length = p.first.contains (k : Int) := mayK_zero p _ k _
    rw [e, List.contains_iff_mem]
    constructor
    · rintro ⟨h1, h2⟩
      have := h.first _ h1
      exact ⟨by omega, h1, h2⟩
    · rintro ⟨_, h1, h2⟩
      exact ⟨h1, h2⟩
  | i + 1, k => by
    rw [on_get, rdK_succ p s (i + 1) (by omega), havL_mem, behL_mem, Int.toNat_natCast]
    constructor
    · rintro ⟨⟨x, hx, hk⟩, h2⟩
      have hxi := rdK_in h s (i + 1) x hx
      have hki := h.foll _ _ hk
      obtain ⟨j, rfl⟩ : ∃ j : Nat, x = (j : Int) := ⟨x.toNat, by omega⟩
      refine ⟨by omega, ?_, h2⟩
      unfold mayK
      rw [Bool.or_eq_true]
      right
      rw [List.any_eq_true]
      refine ⟨j, by rw [List.mem_range]; omega, ?_⟩
      rw [Int.toNat_natCast] at hk
      rw [(rdK_on h s i j).1 hx, List.contains_iff_mem.2 hk]
      simp
    · rintro ⟨_, h1, h2⟩
      refine ⟨?_, h2⟩
      unfold mayK at h1
      simp only [Bool.or_eq_true, List.any_eq_true, Bool.and_eq_true, decide_eq_true_eq] at h1
      rcases h1 with ⟨h1, _⟩ | ⟨j, _, _, h3, h4⟩
      · omega
      · exact ⟨(j : Int), (rdK_on h s i j).2 h3, by rw [Int.toNat_natCast]; exact List.contains_iff_mem.1 h4⟩
/-- the answer -/
theorem fit_read {p : Sp} (hg : goodB p = true) (s : Txt) (h0 : 0 < s.length) : fitB p s = decide (0 < (bothL (rdK p s s.length) p.last).length) := by
  have h := GdS.of hg
  unfold fitB
  rw [hg, Bool.true_and, if_neg (by omega), Bool.eq_iff_iff, decide_eq_true_eq]
  obtain ⟨m, hm⟩ : ∃ m, s.length = m + 1 := ⟨s.length - 1, by omega⟩
  unfold lastK
  rw [List.any_eq_true]
  constructor
  · rintro ⟨k, _, hk⟩
    rw [Bool.and_eq_true, hm, ← rdK_on h] at hk
    refine List.length_pos_of_mem (a := (k : Int)) ?_
    rw [bothL_mem, hm]
    exact ⟨hk.1, List.contains_iff_mem.1 hk.2⟩
  · intro hp
    obtain ⟨x, hx⟩ := List.exists_mem_of_length_pos hp
    rw [bothL_mem] at hx
    have hi := rdK_in h s _ x hx.1
    obtain ⟨k, rfl⟩ : ∃ k : Nat, x = (k : Int) := ⟨x.toNat, by omega⟩
    refine ⟨k, by rw [List.mem_range]; omega, ?_⟩
    rw [Bool.and_eq_true, hm, ← rdK_on h, ← hm]
    exact ⟨hx.1, List.contains_iff_mem.2 hx.2⟩

end Go.Proofs.Ytgbecehggdkkmaa
