/- The reference: fitsAt of ROpt. The reference: fitsAt, Fits. Sets of numbers as rising lists; the order of lists: facts of lists alone. -/
import Derived.Test.YtlpbeieljjgbaaaGreatDoorJ10
import Derived.Lib.SlicesCompact
namespace Go.Proofs.YtlpbeieljjgbaaaGreatDoor
open Go.RowKit

set_option maxRecDepth 20000 in
set_option maxHeartbeats 8000000 in
theorem fitsOfOpt (a : Rx) (Ha : FitsC 36 a a) : FitsC 36 (.opt a) (.opt a) := by
  intro v fv l pre suf E s bs w hA hl h hE hB hn hs
  obtain ⟨J, hJ, hc⟩ := root_at h
  have hle := len_le h
  have hpa := post_pos a
  have hpl : (post (.opt a)).length = (post a).length + 1 := by simp [post]
  have hsp : l = pre ++ (post a ++ (⟨7, noneB⟩ :: suf)) := by rw [h]; simp [post]
  have GA := hid (fun u hA hB => Ha v fv l pre (⟨7, noneB⟩ :: suf) (E - 1) s bs u hA hl hsp (by rw [hpl] at hE; omega) hB hn hs)
  have hA0 := hid hA
  have hB0 := hid hB
  obtain ⟨av, cv, rfl, _, _, _, hAt⟩ := hA
  obtain ⟨hjl, b', o', rfl, d0, -, -, -, -⟩ := cel_at hAt hc
  obtain rfl : E = (J : Int) := by omega
  have hjz : (J : Int) < (l.length : Int) := by omega
  have hJ1 : 1 ≤ J := by omega
  simp only [rootC] at d0
  obtain ⟨fa, fc, rfl⟩ := hB.shape
  have hfb := hid (hB.lt (by omega))
  clear hAt hc h hE hJ hB hsp hpl
  have hbn : bs.length ≤ 1001 := by omega
  generalize hbN : bs.length = N at hbn hB0 hfb GA ⊢
  have hmk := run_make_row' (P := Tryz.prog) 71 4 (.bool false) 1 Tryz.underlying71 Tryz.info4 rfl .i64 .i64 N (by omega) (by omega)
  have hal := hid (al' w (.cells (madeCells #[.bool false] N) 4))
  have hsz : Hid (w.heap.size < (w.alloc (.cells (madeCells #[.bool false] N) 4)).heap.size) := hid (by simp)
  have e0 := keep_cell hal.out d0
  have GA0 := hid (GA.out _ (hA0.out.keep hal.out) (hB0.out.keep hal.out))
  have hO0 := hid (fun F => own_made0 w N F (by omega))
  go_enter Tryz.func36, Tryz.ntmps36
  go_wp2_with (go_at_call 36; refine GA0.out.mono ?_; rintro e w1 ⟨nv, nx, rfl, h1, h2, h3, hb1⟩; have h1 := hid h1; obtain ⟨na, nc, hnv⟩ := h2.shape; have hnl : nx.length = N := (by have := h1.out.len; omega); rw [hnl] at hnv; subst hnv; have h2 := hid h2; have h3 := hid h3)
  have hne1 := hid (ne_out hfb.out hsz.out h3.out)
  have hne2 := hid (ne_out (v := .slice fa N fc) hfb.out hsz.out (Or.inl rfl))
  have hres := hid (isStp_opt hn h1.out)
  have hsN : s.length + 1 = N := by omega
  rw [hsN] at hres
  have hF : Hid (∀ k, (fun i => nx.getD i false || bs.getD i false) k = (nx.getD k false || bs.getD k false)) := hid (fun _ => rfl)
  generalize (fun i => nx.getD i false || bs.getD i false) = F at hF hres
  have hO1 := hid (own_below (hO0.out F) hb1)
  have hbl0 := hid (bl_step hal.out hb1)
  have hBn := hid (hB0.out.keep hbl0.out)
  go_loopw [15] (fun i wr => ∃ k : Nat, k ≤ N ∧ i = .int .i64 k ∧ Hid (OwnT wr w.heap.size (.slice (some ⟨w.heap.size, 0, none⟩) N N) (tabK N k F)) ∧ Hid (Bls wr (.slice na N nc) nx) ∧ Hid (Bls wr (.slice fa N fc) bs) ∧ Below w.heap.size w wr) (fun i _ => N - (intOf i).toNat)
  case atStart => exact ⟨0, Nat.zero_le _, rfl, hO1, h2, hBn, hbl0.out⟩
  case round =>
    obtain ⟨k, hk, rfl, hO, hB1, hB2, hbl⟩ := hrel
    by_cases hlt : k < N
    · have hltz : (k : Int) < (N : Int) := by omega
      obtain ⟨nb, no, rfl, hnbl, n0⟩ := bls_atn hB1.out (j := k) (by omega)
      obtain ⟨nb2, no2, rfl, hnbl2, n2⟩ := bls_atn hB2.out (j := k) (by omega)
      have o0 := OwnT.at hO.out (j := k) (x := (tabK N k F)[k]'(by rw [tabK_len]; omega)) (List.getElem?_eq_getElem _)
      have o1 := OwnT.free hO.out (by rw [tabK_len]) k
      generalize (tabK N k F)[k]'_ = ox at o0
      have hF1 := hid (hF.out k)
      rw [nx_get nx k (by omega)] at n0
      rw [nx_get bs k (by omega)] at n2
      have hput : Hid (∀ x, F k = x → OwnT (wr.setCell ⟨w.heap.size, k, none⟩ (.bool x)) w.heap.size (.slice (some ⟨w.heap.size, 0, none⟩) N N) (tabK N (k + 1) F)) := hid (fun x hx => by
        have h1 := OwnT.put_n (k := k) x hO.out (tabK_len N k F).symm
        rw [← hx, tabK_step] at h1
        rw [← hx]
        exact h1)
      generalize nx.getD k false = x at n0 hF1
      generalize bs.getD k false = y at n2 hF1
      cases x with
      | false =>
        go_wp2
        go_roundw
        case rel => exact ⟨k + 1, by omega, by go_num, hid (hput.out _ hF1.out), hid (hB1.out.set hne1.out), hid (hB2.out.set hne2.out), bl_set hbl _ _ _ (Nat.le_refl _)⟩
        case measure => simp [intOf]; omega
      | true =>
        go_wp2
        go_roundw
        case rel => exact ⟨k + 1, by omega, by go_num, hid (hput.out _ hF1.out), hid (hB1.out.set hne1.out), hid (hB2.out.set hne2.out), bl_set hbl _ _ _ (Nat.le_refl _)⟩
        case measure => simp [intOf]; omega
    · have hltz : ¬ (k : Int) < (N : Int) := by omega
      obtain rfl : N = k := by omega
      have hbb := hid (bls_n hO.out (tabK_len N N F).symm)
      go_wp2
      go_ret
      exact ⟨_, rfl, _, hres.out, hbb.out, Or.inr (new_blk w _ _ _), hbl⟩

end Go.Proofs.YtlpbeieljjgbaaaGreatDoor
namespace Go.Proofs.YtlpbeieljjgbaaaGreatDoor
open Go.RowKit

theorem fitsAtC : ∀ t : Rx, FitsC 36 t t
  | .set ⟨a, b, c, d⟩ => fitsOfSet a b c d
  | .eps => fitsOfEps
  | .cat a b => fitsOfCat a b (fitsAtC a) (fitsAtC b)
  | .or a b => fitsOfOr a b (fitsAtC a) (fitsAtC b)
  | .star a => fitsOfStar a (fitsAtC a)
  | .plus a => fitsOfPlus a (fitsAtC a)
  | .opt a => fitsOfOpt a (fitsAtC a)
theorem seg_all (s : Txt) : seg s 0 s.length = s := by simp [seg]
theorem stp_start (t : Rx) (s : Txt) (bs : List Bool) (h : ∀ i, On bs i ↔ i = 0) : Stp t s (On bs) s.length ↔ Mat t s := by
  constructor
  · rintro ⟨j, _, hf, hm⟩
    rw [(h j).1 hf, seg_all] at hm
    exact hm
  · exact fun hm => ⟨0, Nat.zero_le _, (h 0).2 rfl, by rw [seg_all]; exact hm⟩
theorem on_start (N i : Nat) (hN : 0 < N) : On ((List.replicate N false).set 0 true) i ↔ i = 0 := by
  unfold On
  rw [List.getElem?_set]
  by_cases e : 0 = i
  · subst e; simp [hN]
  · rw [if_neg e]
    constructor
    · intro h
      rw [List.getElem?_replicate] at h
      split at h <;> simp at h
    · intro h; omega

theorem own_start (w : World) (N : Nat) (hN : N ≤ 2000) : OwnT (w.alloc (.cells ((madeCells #[.bool false] N).setIfInBounds 0 (.bool true)) 4)) w.heap.size (.slice (some ⟨w.heap.size, 0, none⟩) N N) ((List.replicate N false).set 0 true) := by
  have e := made_false N
  rw [Nat.mul_one, show (Value.bool false).cells = #[.bool false] from rfl] at e
  have hz : (madeCells #[Value.bool false] N).size = N := by rw [← Array.length_toList, e]; simp
  have h := World.ownsRow_lit (e := 4) (base := w.heap.size) (size := 1) w ((madeCells #[.bool false] N).setIfInBounds 0 (.bool true)) N (Nat.le_refl _) (by unfold maxLen; omega) (by rw [Array.size_setIfInBounds, hz]; simp)
  rw [Array.toList_setIfInBounds, e] at h
  unfold OwnT
  rw [List.length_set, List.length_replicate, List.map_set]
  exact h

set_option maxRecDepth 20000 in
set_option maxHeartbeats 4000000 in
theorem fitsC (t : Rx) (v : Value) (s : Txt) (w : World) (hA : Cels w v (post t)) (hl : (post t).length ≤ 60) (hs : s.length ≤ 1000) :
    Calls Tryz.prog 20 #[v, .string (strT s)] w fun e w' => ∃ r : Bool, e = .returned (.bool r) ∧ (r = true ↔ Mat t s) ∧ Below w.heap.size w w' := by
  have hp := post_pos t
  have hA0 := hid hA
  obtain ⟨av, cv, rfl, _⟩ := hA
  have hsz := strT_size s
  obtain ⟨N, hN⟩ : ∃ N, Hid (N = s.length + 1) := ⟨_, hid rfl⟩
  have hN' := hN.out
  have hw : IntKind.i64.wrap ((s.length : Int) + 1) = (N : Int) := by rw [IntKind.wrap_i64]; omega
  have hN0 : (0 : Int) < (N : Int) := by omega
  have hsN : (s.length : Int) < (N : Int) := by omega
  have hmk := run_make_row' (P := Tryz.prog) 71 4 (.bool false) 1 Tryz.underlying71 Tryz.info4 rfl .i64 .i64 N (by omega) (by omega)
  have hal := hid (al' w (.cells (madeCells #[.bool false] N) 4))
  have hO0 := own_made0 w N (fun _ => false) (by omega)
  rw [tabK_zero] at hO0
  have hO1 := own_start w N (by omega)
  have c0 := OwnT.at hO0 (j := 0) (x := false) (by rw [List.getElem?_replicate]; rw [if_pos (by omega)])
  have c1 := OwnT.free hO0 (by simp) 0
  have hbl := hid (al' w (.cells ((madeCells #[.bool false] N).setIfInBounds 0 (.bool true)) 4))
  have hB1 := hid (bls_n hO1 (by simp))
  have hst := hid (stp_start t s _ (fun i => on_start N i (by omega)))
  have GG := hid (fitsAtC t _ _ (post t) [] [] (((post t).length : Int) - 1) s _ _ (hA0.out.keep hbl.out) hl (by simp) (by simp) hB1.out (by simp; omega) hs)
  generalize (List.replicate N false).set 0 true = bs at hst hB1 GG hO1
  generalize (post t).length = L at hp hl GG hA0 ⊢
  clear hO0 hO1 hN' hA0
  go_enter Tryz.func20, Tryz.ntmps20
  go_wp2_with (go_at_call 36; refine GG.out.mono ?_; rintro e w1 ⟨nv, nx, rfl, h1, h2, h3, hb1⟩; have hlen := h1.len; have h1 := hid h1; obtain ⟨na, nc, hnv⟩ := h2.shape; rw [hlen, ← hN.out] at hnv; subst hnv; obtain ⟨nb, no, hna, hlt, n0⟩ := bls_atn h2 (j := s.length) (by omega); subst hna; have hon := hid (h1.out.on s.length (Nat.le_refl _)); have hx := hid (nx_get nx s.length (by omega)); rw [hx.out] at n0; clear hx)
  go_ret
  exact ⟨_, rfl, (on_getD (by omega)).symm.trans (hon.out.trans hst.out), bl_step hbl.out hb1⟩

end Go.Proofs.YtlpbeieljjgbaaaGreatDoor
namespace Go.Proofs.YtlpbeieljjgbaaaGreatDoor

/-- a rising list -/
abbrev Up (l : List Int) : Prop := l.Pairwise (· < ·)

def ins (x : Int) : List Int → List Int
  | [] => [x]
  | y :: t => if x < y then x :: y :: t else if x = y then y :: t else y :: ins x t
/-- the set of a list's numbers -/
def ofL : List Int → List Int
  | [] => []
  | x :: t => ins x (ofL t)

theorem ins_mem (x y : Int) (l : List Int) : y ∈ ins x l ↔ y = x ∨ y ∈ l := by
  induction l with
  | nil => simp [ins]
  | cons z t ih =>
    unfold ins
    split
    · simp
    · split
      · rename_i h; subst h; simp
      · simp only [List.mem_cons, ih]
        constructor
        · rintro (h | h | h) <;> simp [h]
        · rintro (h | h | h) <;> simp [h]
theorem ins_up (x : Int) (l : List Int) (h : Up l) : Up (ins x l) := by
  induction l with
  | nil => simp [ins, Up]
  | cons z t ih =>
    rw [Up, List.pairwise_cons] at h
    unfold ins
    split
    · rename_i hx
      rw [Up, List.pairwise_cons]
      refine ⟨fun y hy => ?_, List.pairwise_cons.2 h⟩
      rcases List.mem_cons.1 hy with rfl | hy
      · exact hx
      · have := h.1 y hy; omega
    · split
      · exact List.pairwise_cons.2 h
      · rename_i h1 h2
        rw [Up, List.pairwise_cons]
        refine ⟨fun y hy => ?_, ih h.2⟩
        rcases (ins_mem x y t).1 hy with rfl | hy
        · omega
        · exact h.1 y hy
theorem ins_len (x : Int) (l : List Int) : (ins x l).length ≤ l.length + 1 := by
  induction l with
  | nil => simp [ins]
  | cons z t ih =>
    unfold ins
    split
    · simp
    · split
      · simp
      · simp only [List.length_cons]; omega
theorem ofL_mem (y : Int) (l : List Int) : y ∈ ofL l ↔ y ∈ l := by
  induction l with
  | nil => simp [ofL]
  | cons z t ih => rw [ofL, ins_mem, ih, List.mem_cons]
theorem ofL_up (l : List Int) : Up (ofL l) := by
  induction l with
  | nil => exact List.Pairwise.nil
  | cons z t ih => exact ins_up z _ ih
theorem ofL_len (l : List Int) : (ofL l).length ≤ l.length := by
  induction l with
  | nil => exact Nat.le_refl _
  | cons z t ih => have := ins_len z (ofL t); simp only [ofL, List.length_cons]; omega

/-- two rising lists of the same numbers are one -/
theorem up_uniq : ∀ {l m : List Int}, Up l → Up m → (∀ x, x ∈ l ↔ x ∈ m) → l = m
  | [], [], _, _, _ => rfl
  | [], y :: t, _, _, h => absurd ((h y).2 (List.mem_cons_self)) (by simp)
  | x :: s, [], _, _, h => absurd ((h x).1 (List.mem_cons_self)) (by simp)
  | x :: s, y :: t, hl, hm, h => by
    rw [Up, List.pairwise_cons] at hl hm
    have hxy : x = y := by
      have h1 := (h x).1 List.mem_cons_self
      have h2 := (h y).2 List.mem_cons_self
      rcases List.mem_cons.1 h1 with e | h1
      · exact e
      · rcases List.mem_cons.1 h2 with e | h2
        · exact e.symm
        · have := hl.1 y h2; have := hm.1 x h1; omega
    subst hxy
    congr 1
    refine up_uniq hl.2 hm.2 fun z => ?_
    have hz := h z
    simp only [List.mem_cons] at hz
    constructor
    · intro hzs
      rcases hz.1 (Or.inr hzs) with e | e
      · subst e; exact absurd (hl.1 _ hzs) (by omega)
      · exact e
    · intro hzt
      rcases hz.2 (Or.inr hzt) with e | e
      · subst e; exact absurd (hm.1 _ hzt) (by omega)
      · exact e
theorem ofL_eq {l s : List Int} (hs : Up s) (h : ∀ x, x ∈ s ↔ x ∈ l) : s = ofL l :=
  up_uniq hs (ofL_up l) fun x => by rw [h, ofL_mem]
theorem ofL_self {s : List Int} (hs : Up s) : ofL s = s := (ofL_eq hs fun _ => Iff.rfl).symm
theorem up_iff (l : List Int) : Up l ↔ l = ofL l := ⟨fun h => (ofL_self h).symm, fun h => by rw [h]; exact ofL_up l⟩
theorem ofL_congr {l m : List Int} (h : ∀ x, x ∈ l ↔ x ∈ m) : ofL l = ofL m :=
  up_uniq (ofL_up l) (ofL_up m) fun x => by rw [ofL_mem, ofL_mem, h]
theorem up_filter {l : List Int} (h : Up l) (p : Int → Bool) : Up (l.filter p) := List.Pairwise.filter p h
/-- what is in both; what is in the one alone -/
def bothL (a b : List Int) : List Int := (ofL a).filter fun n => b.contains n
def lessL (a b : List Int) : List Int := (ofL a).filter fun n => !b.contains n
def unionL (a b : List Int) : List Int := ofL (a ++ b)
theorem bothL_eq (a b : List Int) : bothL a b = ofL (a.filter fun n => b.contains n) :=
  ofL_eq (up_filter (ofL_up a) _) fun x => by unfold bothL; rw [List.mem_filter, List.mem_filter, ofL_mem]
theorem lessL_eq (a b : List Int) : lessL a b = ofL (a.filter fun n => !b.contains n) :=
  ofL_eq (up_filter (ofL_up a) _) fun x => by unfold lessL; rw [List.mem_filter, List.mem_filter, ofL_mem]
theorem bothL_mem (a b : List Int) (x : Int) : x ∈ bothL a b ↔ x ∈ a ∧ x ∈ b := by unfold bothL; rw [List.mem_filter, ofL_mem, List.contains_iff_mem]
theorem lessL_mem (a b : List Int) (x : Int) : x ∈ lessL a b ↔ x ∈ a ∧ ¬ x ∈ b := by unfold lessL; rw [List.mem_filter, ofL_mem, Bool.not_eq_true', ← Bool.not_eq_true, List.contains_iff_mem]
theorem unionL_mem (a b : List Int) (x : Int) : x ∈ unionL a b ↔ x ∈ a ∨ x ∈ b := by simp [unionL, ofL_mem]
theorem bothL_len (a b : List Int) : (bothL a b).length ≤ a.length := Nat.le_trans (List.length_filter_le _ _) (ofL_len a)
theorem lessL_len (a b : List Int) : (lessL a b).length ≤ a.length := Nat.le_trans (List.length_filter_le _ _) (ofL_len a)
theorem unionL_len (a b : List Int) : (unionL a b).length ≤ a.length + b.length := by have := ofL_len (a ++ b); rw [List.length_append] at this; exact this
theorem contains_ofL (b : List Int) (n : Int) : (ofL b).contains n = b.contains n := by
  rw [Bool.eq_iff_iff]; simp [ofL_mem]

/-- a sorted list of which each stands once -/
theorem mem_compact (zs : List Int) (x : Int) : x ∈ Lib.compact zs ↔ x ∈ zs := by
  have key : ∀ m, m ≤ zs.length → ∀ y, y ∈ Lib.compactUpTo zs.toArray m ↔ y ∈ zs.take m := by
    intro m
    induction m with
    | zero => intro _ y; simp [Lib.compactUpTo]
    | succ m ih =>
      intro hm y
      have hlt : m < zs.length := hm
      rw [Lib.compactUpTo_succ, List.mem_append, ih (by omega), List.take_succ_eq_append_getElem hlt, List.mem_append]
      have hg : zs.toArray[m]! = zs[m] := by simp [getElem!_pos, hlt]
      cases hk : Lib.keeps zs.toArray m with
      | true => simp [hg]
      | false =>
        simp only [Bool.false_eq_true, if_false, List.not_mem_nil, or_false, List.mem_singleton]
        constructor
        · exact Or.inl
        · rintro (h | h)
          · exact h
          · have hm0 : m ≠ 0 := by rintro rfl; rw [Lib.keeps_lt_one _ 0 (by omega)] at hk; cases hk
            have he : zs.toArray[m]! = zs.toArray[m - 1]! := by
              by_cases e : zs.toArray[m]! = zs.toArray[m - 1]!
              · exact e
              · rw [Lib.keeps_pos e] at hk; cases hk
            have hg1 : zs.toArray[m - 1]! = zs[m - 1]'(by omega) := by simp [getElem!_pos, show m - 1 < zs.length by omega]
            rw [h, ← hg, he, hg1]
            exact List.mem_take_iff_getElem.2 ⟨m - 1, by omega, rfl⟩
  have := key zs.length (Nat.le_refl _) x
  rw [List.take_of_length_le (Nat.le_refl _)] at this
  simpa [Lib.compact] using this
theorem up_compact (zs : List Int) (hs : zs.Pairwise (· ≤ ·)) : Up (Lib.compact zs) := by
  have key : ∀ m, m ≤ zs.length → Up (Lib.compactUpTo zs.toArray m) ∧ ∀ y ∈ Lib.compactUpTo zs.toArray m, y ∈ zs.take m := by
    intro m
    induction m with
    | zero => intro _; simp [Lib.compactUpTo, Up]
    | succ m ih =>
      intro hm
      have hlt : m < zs.length := hm
      obtain ⟨h1, h2⟩ := ih (by omega)
      have hg : zs.toArray[m]! = zs[m] := by simp [getElem!_pos, hlt]
      rw [Lib.compactUpTo_succ, List.take_succ_eq_append_getElem hlt]
      cases hk : Lib.keeps zs.toArray m with
      | false =>
        simp only [Bool.false_eq_true, if_false, List.append_nil]
        exact ⟨h1, fun y hy => List.mem_append_left _ (h2 y hy)⟩
      | true =>
        simp only [if_true, hg]
        refine ⟨List.pairwise_append.2 ⟨h1, List.pairwise_singleton _ _, fun y hy z hz => ?_⟩, fun y hy => ?_⟩
        · rw [List.mem_singleton] at hz
          subst hz
          obtain ⟨i, hi, rfl⟩ := List.mem_take_iff_getElem.1 (h2 y hy)
          have him : i < m := by omega
          have hm0 : 0 < m := by omega
          have hg1 : zs.toArray[m - 1]! = zs[m - 1]'(by omega) := by simp [getElem!_pos, show m - 1 < zs.length by omega]
          have hne : zs[m - 1]'(by omega) ≠ zs[m] := by
            intro e
            rw [Lib.keeps_neg hm0 (by rw [hg, hg1, e])] at hk
            cases hk
          have hle := List.pairwise_iff_getElem.1 hs
          have h3 : zs[m - 1]'(by omega) ≤ zs[m] := hle (m - 1) m (by omega) hlt (by omega)
          have h4 : zs[i]'(by omega) ≤ zs[m - 1]'(by omega) := by
            by_cases e : i = m - 1
            · subst e; exact Int.le_refl _
            · exact hle i (m - 1) (by omega) (by omega) (by omega)
          omega
        · rcases List.mem_append.1 hy with hy | hy
          · exact List.mem_append_left _ (h2 y hy)
          · exact List.mem_append_right _ hy
  exact (key zs.length (Nat.le_refl _)).1
theorem sorted_ms (l : List Int) : (l.mergeSort fun x y => decide (x ≤ y)).Pairwise (· ≤ ·) := by
  have := List.pairwise_mergeSort (le := fun x y : Int => decide (x ≤ y)) (fun a b c h1 h2 => by simp at *; omega) (fun a b => by simp; omega) l
  exact this.imp (fun h => of_decide_eq_true h)
theorem ofL_sorted (l : List Int) : Lib.compact (l.mergeSort fun x y => decide (x ≤ y)) = ofL l :=
  ofL_eq (up_compact _ (sorted_ms l)) fun x => by rw [mem_compact]; exact (List.mergeSort_perm l _).mem_iff

/-- the order of lists -/
def cmpL : List Int → List Int → Int
  | [], [] => 0
  | [], _ :: _ => -1
  | _ :: _, [] => 1
  | x :: a, y :: b => if x < y then -1 else if y < x then 1 else cmpL a b
theorem cmpL_cases : ∀ a b, cmpL a b = -1 ∨ cmpL a b = 0 ∨ cmpL a b = 1
  | [], [] => by simp [cmpL]
  | [], _ :: _ => by simp [cmpL]
  | _ :: _, [] => by simp [cmpL]
  | x :: a, y :: b => by
    have := cmpL_cases a b
    unfold cmpL
    split
    · simp
    · split
      · simp
      · exact this
theorem cmpL_turn : ∀ a b, cmpL b a = - cmpL a b
  | [], [] => by simp [cmpL]
  | [], _ :: _ => by simp [cmpL]
  | _ :: _, [] => by simp [cmpL]
  | x :: a, y :: b => by
    have := cmpL_turn a b
    unfold cmpL
    by_cases h1 : x < y
    · rw [if_neg (by omega), if_pos h1, if_pos h1]; rfl
    · by_cases h2 : y < x
      · rw [if_pos h2, if_neg h1, if_pos h2]
      · rw [if_neg h2, if_neg h1, if_neg h1, if_neg h2]; exact this
theorem cmpL_same : ∀ a b, cmpL a b = 0 ↔ a = b
  | [], [] => by simp [cmpL]
  | [], _ :: _ => by simp [cmpL]
  | _ :: _, [] => by simp [cmpL]
  | x :: a, y :: b => by
    have := cmpL_same a b
    unfold cmpL
    by_cases h1 : x < y
    · rw [if_pos h1]; simp; omega
    · by_cases h2 : y < x
      · rw [if_neg h1, if_pos h2]; simp; omega
      · rw [if_neg h1, if_neg h2, this]
        obtain rfl : x = y := by omega
        simp
theorem cmpL_on : ∀ a b c, cmpL a b ≤ 0 → cmpL b c ≤ 0 → cmpL a c ≤ 0
  | [], b, [], _, _ => by simp [cmpL]
  | [], b, _ :: _, _, _ => by simp [cmpL]
  | _ :: _, [], c, h1, _ => by simp [cmpL] at h1
  | _ :: _, _ :: _, [], _, h2 => by simp [cmpL] at h2
  | x :: a, y :: b, z :: c, h1, h2 => by
    have ih := cmpL_on a b c
    rw [cmpL] at h1 h2 ⊢
    by_cases e1 : x < y
    · by_cases e2 : y < z
      · rw [if_pos (by omega)]; omega
      · by_cases e3 : z < y
        · rw [if_neg e2, if_pos e3] at h2; omega
        · rw [if_pos (by omega)]; omega
    · by_cases e4 : y < x
      · rw [if_neg e1, if_pos e4] at h1; omega
      · rw [if_neg e1, if_neg e4] at h1
        by_cases e2 : y < z
        · rw [if_pos (by omega)]; omega
        · by_cases e3 : z < y
          · rw [if_neg e2, if_pos e3] at h2; omega
          · rw [if_neg e2, if_neg e3] at h2
            rw [if_neg (by omega), if_neg (by omega)]
            exact ih h1 h2
/-- one step of the order, at a place -/
theorem cmpL_at {a b : List Int} {k : Nat} (ha : k < a.length) (hb : k < b.length) : cmpL (a.drop k) (b.drop k) = if a[k] < b[k] then -1 else if b[k] < a[k] then 1 else cmpL (a.drop (k + 1)) (b.drop (k + 1)) := by
  rw [List.drop_eq_getElem_cons ha, List.drop_eq_getElem_cons hb, cmpL]
theorem cmpL_endA {a b : List Int} {k : Nat} (ha : ¬ k < a.length) (hb : k < b.length) : cmpL (a.drop k) (b.drop k) = -1 := by
  rw [List.drop_eq_nil_of_le (by omega), List.drop_eq_getElem_cons hb, cmpL]
theorem cmpL_endB {a b : List Int} {k : Nat} (ha : k < a.length) (hb : ¬ k < b.length) : cmpL (a.drop k) (b.drop k) = 1 := by
  rw [List.drop_eq_getElem_cons ha, List.drop_eq_nil_of_le (show b.length ≤ k by omega), cmpL]
theorem cmpL_end {a b : List Int} {k : Nat} (ha : ¬ k < a.length) (hb : ¬ k < b.length) : cmpL (a.drop k) (b.drop k) = 0 := by
  rw [List.drop_eq_nil_of_le (show a.length ≤ k by omega), List.drop_eq_nil_of_le (show b.length ≤ k by omega), cmpL]

end Go.Proofs.YtlpbeieljjgbaaaGreatDoor
