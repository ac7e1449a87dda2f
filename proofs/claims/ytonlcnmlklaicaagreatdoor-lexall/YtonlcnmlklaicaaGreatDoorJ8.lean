/- The reference: fitsAt of RCat. The reference: fitsAt of ROr. The reference: fitsAt of ROpt. The reference: fitsAt, Fits. -/
import Derived.Test.YtonlcnmlklaicaaGreatDoorJ7
namespace Go.Proofs.YtonlcnmlklaicaaGreatDoor
open Go.RowKit

set_option maxRecDepth 20000 in
set_option maxHeartbeats 8000000 in
theorem fitsOfCat (a b : Rx) (Ha : FitsC 32 a a) (Hb : FitsC 32 b b) : FitsC 32 (.cat a b) (.cat a b) := by
  intro v fv l pre suf E s bs w hA hl h hE hB hn hs
  obtain ⟨J, hJ, hc⟩ := root_at h
  have hle := len_le h
  have hpa := post_pos a
  have hpb := post_pos b
  have hpl : (post (.cat a b)).length = (post a).length + ((post b).length + 1) := by simp [post]
  have hsp : l = (pre ++ post a) ++ (post b ++ (⟨3, noneB⟩ :: suf)) := by rw [h]; simp [post]
  have hlp : (pre ++ post a).length = pre.length + (post a).length := by simp
  have hEb : E - 1 + 1 = (((pre ++ post a).length + (post b).length : Nat) : Int) := by rw [hlp]; rw [hpl] at hE; omega
  have GF := hid (fun u hA => fromC v l (pre ++ post a) (⟨3, noneB⟩ :: suf) b (E - 1) u hA hl hsp hEb)
  have GA := hid (fun u hA hB => Ha v fv l pre (post b ++ (⟨3, noneB⟩ :: suf)) ((((pre ++ post a).length : Nat) : Int) - 1) s bs u hA hl (by rw [h]; simp [post]) (by rw [hlp]; omega) hB hn hs)
  have GB := hid (fun v1 b1 u hA hB h1 => Hb v v1 l (pre ++ post a) (⟨3, noneB⟩ :: suf) (E - 1) s b1 u hA hl hsp hEb hB h1 hs)
  have hM0 : 0 < (pre ++ post a).length := by omega
  have hM1 : (pre ++ post a).length ≤ 60 := by omega
  have hA0 := hid hA
  have hB0 := hid hB
  obtain ⟨av, cv, rfl, _, _, _, hAt⟩ := hA
  obtain ⟨hjl, b', o', rfl, d0, -, -, -, -⟩ := cel_at hAt hc
  obtain rfl : E = (J : Int) := by omega
  have hjz : (J : Int) < (l.length : Int) := by omega
  have hJ1 : 1 ≤ J := by omega
  simp only [rootC] at d0
  obtain ⟨fa, fc, rfl⟩ := hB.shape
  generalize (pre ++ post a).length = M at GF GA hM0 hM1
  clear hAt hc h hE hJ hB hsp hlp hpl hEb
  have hbn : bs.length ≤ 1001 := by omega
  generalize hbN : bs.length = N at hbn hB0 GA ⊢
  have hmk := run_make_row' (P := Tryz.prog) 82 4 (.bool false) 1 Tryz.underlying82 Tryz.info4 rfl .i64 .i64 N (by omega) (by omega)
  have hal := hid (al' w (.cells (madeCells #[.bool false] N) 4))
  have e0 := keep_cell hal.out d0
  have GF0 := hid (GF.out _ (hA0.out.keep hal.out))
  have GA0 := hid (GA.out _ (hA0.out.keep hal.out) (hB0.out.keep hal.out))
  go_enter Tryz.func32, Tryz.ntmps32
  go_wp2_with (first
    | (go_at_call 46; refine GF0.out.mono ?_; rintro e u2 ⟨rfl, hu2⟩; subst u2; have hfl := hid True.intro)
    | (go_at_call 32; refine (GB.out nv nx w1 (hA0.out.keep (bl_step hal.out hb1)) h2.out h1.out.len).mono ?_; rintro e w2 ⟨nv2, nx2, rfl, k1, k2, k3, hb2⟩; have k1 := hid k1; have k2 := hid k2; have k3 := hid k3)
    | (go_at_call 32; refine GA0.out.mono ?_; rintro e w1 ⟨nv, nx, rfl, h1, h2, h3, hb1⟩; have h1 := hid h1; have h2 := hid h2; have h3 := hid h3))
  go_ret
  exact ⟨_, nx2, rfl, isStp_cat h1.out k1.out, k2.out, new_or2 (by have := (bl_step hal.out hb1).size; exact this) k3.out (new_or (by simp) h3.out), bl_step (bl_step hal.out hb1) hb2⟩

end Go.Proofs.YtonlcnmlklaicaaGreatDoor
namespace Go.Proofs.YtonlcnmlklaicaaGreatDoor
open Go.RowKit

set_option maxRecDepth 20000 in
set_option maxHeartbeats 8000000 in
theorem fitsOfOr (a b : Rx) (Ha : FitsC 32 a a) (Hb : FitsC 32 b b) : FitsC 32 (.or a b) (.or a b) := by
  intro v fv l pre suf E s bs w hA hl h hE hB hn hs
  obtain ⟨J, hJ, hc⟩ := root_at h
  have hle := len_le h
  have hpa := post_pos a
  have hpb := post_pos b
  have hpl : (post (.or a b)).length = (post a).length + ((post b).length + 1) := by simp [post]
  have hsp : l = (pre ++ post a) ++ (post b ++ (⟨4, noneB⟩ :: suf)) := by rw [h]; simp [post]
  have hlp : (pre ++ post a).length = pre.length + (post a).length := by simp
  have hEb : E - 1 + 1 = (((pre ++ post a).length + (post b).length : Nat) : Int) := by rw [hlp]; rw [hpl] at hE; omega
  have GF := hid (fun u hA => fromC v l (pre ++ post a) (⟨4, noneB⟩ :: suf) b (E - 1) u hA hl hsp hEb)
  have GA := hid (fun u hA hB => Ha v fv l pre (post b ++ (⟨4, noneB⟩ :: suf)) ((((pre ++ post a).length : Nat) : Int) - 1) s bs u hA hl (by rw [h]; simp [post]) (by rw [hlp]; omega) hB hn hs)
  have GB := hid (fun u hA hB => Hb v fv l (pre ++ post a) (⟨4, noneB⟩ :: suf) (E - 1) s bs u hA hl hsp hEb hB hn hs)
  have hM0 : 0 < (pre ++ post a).length := by omega
  have hM1 : (pre ++ post a).length ≤ 60 := by omega
  have hA0 := hid hA
  have hB0 := hid hB
  obtain ⟨av, cv, rfl, _, _, _, hAt⟩ := hA
  obtain ⟨hjl, b', o', rfl, d0, -, -, -, -⟩ := cel_at hAt hc
  obtain rfl : E = (J : Int) := by omega
  have hjz : (J : Int) < (l.length : Int) := by omega
  have hJ1 : 1 ≤ J := by omega
  simp only [rootC] at d0
  obtain ⟨fa, fc, rfl⟩ := hB.shape
  have hfb := hid (hB.lt (by omega))
  generalize (pre ++ post a).length = M at GF GA hM0 hM1
  clear hAt hc h hE hJ hB hsp hlp hpl hEb
  have hbn : bs.length ≤ 1001 := by omega
  generalize hbN : bs.length = N at hbn hB0 hfb GA GB ⊢
  have hmk := run_make_row' (P := Tryz.prog) 82 4 (.bool false) 1 Tryz.underlying82 Tryz.info4 rfl .i64 .i64 N (by omega) (by omega)
  have hal := hid (al' w (.cells (madeCells #[.bool false] N) 4))
  have hsz : Hid (w.heap.size < (w.alloc (.cells (madeCells #[.bool false] N) 4)).heap.size) := hid (by simp)
  have e0 := keep_cell hal.out d0
  have GF0 := hid (GF.out _ (hA0.out.keep hal.out))
  have GA0 := hid (GA.out _ (hA0.out.keep hal.out) (hB0.out.keep hal.out))
  have hO0 := hid (fun F => own_made0 w N F (by omega))
  go_enter Tryz.func32, Tryz.ntmps32
  go_wp2_with (first
    | (go_at_call 46; refine GF0.out.mono ?_; rintro e u2 ⟨rfl, hu2⟩; subst u2; have hfl := hid True.intro)
    | (go_at_call 32; refine (GB.out w1 (hA0.out.keep (bl_step hal.out hb1)) (hB0.out.keep (bl_step hal.out hb1))).mono ?_; rintro e w2 ⟨nv2, nx2, rfl, k1, k2, k3, hb2⟩; have k1 := hid k1; obtain ⟨na2, nc2, hnv2⟩ := k2.shape; have hnl2 : nx2.length = N := (by have := k1.out.len; omega); rw [hnl2] at hnv2; subst hnv2; have k2 := hid k2; have k3 := hid k3)
    | (go_at_call 32; refine GA0.out.mono ?_; rintro e w1 ⟨nv, nx, rfl, h1, h2, h3, hb1⟩; have h1 := hid h1; obtain ⟨na, nc, hnv⟩ := h2.shape; have hnl : nx.length = N := (by have := h1.out.len; omega); rw [hnl] at hnv; subst hnv; have h2 := hid h2; have h3 := hid h3))
  have hne1 := hid (ne_out hfb.out hsz.out h3.out)
  have hne2 := hid (ne_out hfb.out (Nat.lt_of_lt_of_le hsz.out hb1.size) k3.out)
  have hres := hid (isStp_or h1.out k1.out)
  have hsN : s.length + 1 = N := by omega
  rw [hsN] at hres
  have hF : Hid (∀ k, (fun i => nx.getD i false || nx2.getD i false) k = (nx.getD k false || nx2.getD k false)) := hid (fun _ => rfl)
  generalize (fun i => nx.getD i false || nx2.getD i false) = F at hF hres
  have hO1 := hid (own_below (own_below (hO0.out F) hb1) hb2)
  have hBn := hid (h2.out.keep hb2)
  have hbl0 := hid (bl_step (bl_step hal.out hb1) hb2)
  go_loopw [13] (fun i wr => ∃ k : Nat, k ≤ N ∧ i = .int .i64 k ∧ Hid (OwnT wr w.heap.size (.slice (some ⟨w.heap.size, 0, none⟩) N N) (tabK N k F)) ∧ Hid (Bls wr (.slice na N nc) nx) ∧ Hid (Bls wr (.slice na2 N nc2) nx2) ∧ Below w.heap.size w wr) (fun i _ => N - (intOf i).toNat)
  case atStart => exact ⟨0, Nat.zero_le _, rfl, hO1, hBn, k2, hbl0.out⟩
  case round =>
    obtain ⟨k, hk, rfl, hO, hB1, hB2, hbl⟩ := hrel
    by_cases hlt : k < N
    · have hltz : (k : Int) < (N : Int) := by omega
      obtain ⟨nb, no, rfl, hnbl, n0⟩ := bls_atn hB1.out (j := k) (by omega)
      obtain ⟨nb2, no2, rfl, hnbl2, n2⟩ := bls_atn hB2.out (j := k) (by omega)
      have o0 := OwnT.at hO.out (j := k) (x := (tabK N k F)[k]'(by rw [tabK_len]; omega)) (List.getElem?_eq_getElem _)
      have o1 := OwnT.free hO.out (by rw [tabK_len]) k
      generalize (tabK N k F)[k]'_ = ox at o0
      have hF1 := hid (hF.out k)
      rw [nx_get nx k (by omega)] at n0
      rw [nx_get nx2 k (by omega)] at n2
      have hput : Hid (∀ x, F k = x → OwnT (wr.setCell ⟨w.heap.size, k, none⟩ (.bool x)) w.heap.size (.slice (some ⟨w.heap.size, 0, none⟩) N N) (tabK N (k + 1) F)) := hid (fun x hx => by
        have h1 := OwnT.put_n (k := k) x hO.out (tabK_len N k F).symm
        rw [← hx, tabK_step] at h1
        rw [← hx]
        exact h1)
      generalize nx.getD k false = x at n0 hF1
      generalize nx2.getD k false = y at n2 hF1
      cases x with
      | false =>
        go_wp2
        go_roundw
        case rel => exact ⟨k + 1, by omega, by go_num, hid (hput.out _ hF1.out), hid (hB1.out.set hne1.out), hid (hB2.out.set hne2.out), bl_set hbl _ _ _ (Nat.le_refl _)⟩
        case measure => simp [intOf]; omega
      | true =>
        go_wp2
        go_roundw
        case rel => exact ⟨k + 1, by omega, by go_num, hid (hput.out _ hF1.out), hid (hB1.out.set hne1.out), hid (hB2.out.set hne2.out), bl_set hbl _ _ _ (Nat.le_refl _)⟩
        case measure => simp [intOf]; omega
    · have hltz : ¬ (k : Int) < (N : Int) := by omega
      obtain rfl : N = k := by omega
      have hbb := hid (bls_n hO.out (tabK_len N N F).symm)
      go_wp2
      go_ret
      exact ⟨_, rfl, _, hres.out, hbb.out, Or.inr (new_blk w _ _ _), hbl⟩

end Go.Proofs.YtonlcnmlklaicaaGreatDoor
namespace Go.Proofs.YtonlcnmlklaicaaGreatDoor
open Go.RowKit

set_option maxRecDepth 20000 in
set_option maxHeartbeats 8000000 in
theorem fitsOfOpt (a : Rx) (Ha : FitsC 32 a a) : FitsC 32 (.opt a) (.opt a) := by
  intro v fv l pre suf E s bs w hA hl h hE hB hn hs
  obtain ⟨J, hJ, hc⟩ := root_at h
  have hle := len_le h
  have hpa := post_pos a
  have hpl : (post (.opt a)).length = (post a).length + 1 := by simp [post]
  have hsp : l = pre ++ (post a ++ (⟨7, noneB⟩ :: suf)) := by rw [h]; simp [post]
  have GA := hid (fun u hA hB => Ha v fv l pre (⟨7, noneB⟩ :: suf) (E - 1) s bs u hA hl hsp (by rw [hpl] at hE; omega) hB hn hs)
  have hA0 := hid hA
  have hB0 := hid hB
  obtain ⟨av, cv, rfl, _, _, _, hAt⟩ := hA
  obtain ⟨hjl, b', o', rfl, d0, -, -, -, -⟩ := cel_at hAt hc
  obtain rfl : E = (J : Int) := by omega
  have hjz : (J : Int) < (l.length : Int) := by omega
  have hJ1 : 1 ≤ J := by omega
  simp only [rootC] at d0
  obtain ⟨fa, fc, rfl⟩ := hB.shape
  have hfb := hid (hB.lt (by omega))
  clear hAt hc h hE hJ hB hsp hpl
  have hbn : bs.length ≤ 1001 := by omega
  generalize hbN : bs.length = N at hbn hB0 hfb GA ⊢
  have hmk := run_make_row' (P := Tryz.prog) 82 4 (.bool false) 1 Tryz.underlying82 Tryz.info4 rfl .i64 .i64 N (by omega) (by omega)
  have hal := hid (al' w (.cells (madeCells #[.bool false] N) 4))
  have hsz : Hid (w.heap.size < (w.alloc (.cells (madeCells #[.bool false] N) 4)).heap.size) := hid (by simp)
  have e0 := keep_cell hal.out d0
  have GA0 := hid (GA.out _ (hA0.out.keep hal.out) (hB0.out.keep hal.out))
  have hO0 := hid (fun F => own_made0 w N F (by omega))
  go_enter Tryz.func32, Tryz.ntmps32
  go_wp2_with (go_at_call 32; refine GA0.out.mono ?_; rintro e w1 ⟨nv, nx, rfl, h1, h2, h3, hb1⟩; have h1 := hid h1; obtain ⟨na, nc, hnv⟩ := h2.shape; have hnl : nx.length = N := (by have := h1.out.len; omega); rw [hnl] at hnv; subst hnv; have h2 := hid h2; have h3 := hid h3)
  have hne1 := hid (ne_out hfb.out hsz.out h3.out)
  have hne2 := hid (ne_out (v := .slice fa N fc) hfb.out hsz.out (Or.inl rfl))
  have hres := hid (isStp_opt hn h1.out)
  have hsN : s.length + 1 = N := by omega
  rw [hsN] at hres
  have hF : Hid (∀ k, (fun i => nx.getD i false || bs.getD i false) k = (nx.getD k false || bs.getD k false)) := hid (fun _ => rfl)
  generalize (fun i => nx.getD i false || bs.getD i false) = F at hF hres
  have hO1 := hid (own_below (hO0.out F) hb1)
  have hbl0 := hid (bl_step hal.out hb1)
  have hBn := hid (hB0.out.keep hbl0.out)
  go_loopw [15] (fun i wr => ∃ k : Nat, k ≤ N ∧ i = .int .i64 k ∧ Hid (OwnT wr w.heap.size (.slice (some ⟨w.heap.size, 0, none⟩) N N) (tabK N k F)) ∧ Hid (Bls wr (.slice na N nc) nx) ∧ Hid (Bls wr (.slice fa N fc) bs) ∧ Below w.heap.size w wr) (fun i _ => N - (intOf i).toNat)
  case atStart => exact ⟨0, Nat.zero_le _, rfl, hO1, h2, hBn, hbl0.out⟩
  case round =>
    obtain ⟨k, hk, rfl, hO, hB1, hB2, hbl⟩ := hrel
    by_cases hlt : k < N
    · have hltz : (k : Int) < (N : Int) := by omega
      obtain ⟨nb, no, rfl, hnbl, n0⟩ := bls_atn hB1.out (j := k) (by omega)
      obtain ⟨nb2, no2, rfl, hnbl2, n2⟩ := bls_atn hB2.out (j := k) (by omega)
      have o0 := OwnT.at hO.out (j := k) (x := (tabK N k F)[k]'(by rw [tabK_len]; omega)) (List.getElem?_eq_getElem _)
      have o1 := OwnT.free hO.out (by rw [tabK_len]) k
      generalize (tabK N k F)[k]'_ = ox at o0
      have hF1 := hid (hF.out k)
      rw [nx_get nx k (by omega)] at n0
      rw [nx_get bs k (by omega)] at n2
      have hput : Hid (∀ x, F k = x → OwnT (wr.setCell ⟨w.heap.size, k, none⟩ (.bool x)) w.heap.size (.slice (some ⟨w.heap.size, 0, none⟩) N N) (tabK N (k + 1) F)) := hid (fun x hx => by
        have h1 := OwnT.put_n (k := k) x hO.out (tabK_len N k F).symm
        rw [← hx, tabK_step] at h1
        rw [← hx]
        exact h1)
      generalize nx.getD k false = x at n0 hF1
      generalize bs.getD k false = y at n2 hF1
      cases x with
      | false =>
        go_wp2
        go_roundw
        case rel => exact ⟨k + 1, by omega, by go_num, hid (hput.out _ hF1.out), hid (hB1.out.set hne1.out), hid (hB2.out.set hne2.out), bl_set hbl _ _ _ (Nat.le_refl _)⟩
        case measure => simp [intOf]; omega
      | true =>
        go_wp2
        go_roundw
        case rel => exact ⟨k + 1, by omega, by go_num, hid (hput.out _ hF1.out), hid (hB1.out.set hne1.out), hid (hB2.out.set hne2.out), bl_set hbl _ _ _ (Nat.le_refl _)⟩
        case measure => simp [intOf]; omega
    · have hltz : ¬ (k : Int) < (N : Int) := by omega
      obtain rfl : N = k := by omega
      have hbb := hid (bls_n hO.out (tabK_len N N F).symm)
      go_wp2
      go_ret
      exact ⟨_, rfl, _, hres.out, hbb.out, Or.inr (new_blk w _ _ _), hbl⟩

end Go.Proofs.YtonlcnmlklaicaaGreatDoor
namespace Go.Proofs.YtonlcnmlklaicaaGreatDoor
open Go.RowKit

theorem fitsAtC : ∀ t : Rx, FitsC 32 t t
  | .set ⟨a, b, c, d⟩ => fitsOfSet a b c d
  | .eps => fitsOfEps
  | .cat a b => fitsOfCat a b (fitsAtC a) (fitsAtC b)
  | .or a b => fitsOfOr a b (fitsAtC a) (fitsAtC b)
  | .star a => fitsOfStar a (fitsAtC a)
  | .plus a => fitsOfPlus a (fitsAtC a)
  | .opt a => fitsOfOpt a (fitsAtC a)
theorem seg_all (s : Txt) : seg s 0 s.length = s := by simp [seg]
theorem stp_start (t : Rx) (s : Txt) (bs : List Bool) (h : ∀ i, On bs i ↔ i = 0) : Stp t s (On bs) s.length ↔ Mat t s := by
  constructor
  · rintro ⟨j, _, hf, hm⟩
    rw [(h j).1 hf, seg_all] at hm
    exact hm
  · exact fun hm => ⟨0, Nat.zero_le _, (h 0).2 rfl, by rw [seg_all]; exact hm⟩
theorem on_start (N i : Nat) (hN : 0 < N) : On ((List.replicate N false).set 0 true) i ↔ i = 0 := by
  unfold On
  rw [List.getElem?_set]
  by_cases e : 0 = i
  · subst e; simp [hN]
  · rw [if_neg e]
    constructor
    · intro h
      rw [List.getElem?_replicate] at h
      split at h <;> simp at h
    · intro h; omega

theorem own_start (w : World) (N : Nat) (hN : N ≤ 2000) : OwnT (w.alloc (.cells ((madeCells #[.bool false] N).setIfInBounds 0 (.bool true)) 4)) w.heap.size (.slice (some ⟨w.heap.size, 0, none⟩) N N) ((List.replicate N false).set 0 true) := by
  have e := made_false N
  rw [Nat.mul_one, show (Value.bool false).cells = #[.bool false] from rfl] at e
  have hz : (madeCells #[Value.bool false] N).size = N := by rw [← Array.length_toList, e]; simp
  have h := World.ownsRow_lit (e := 4) (base := w.heap.size) (size := 1) w ((madeCells #[.bool false] N).setIfInBounds 0 (.bool true)) N (Nat.le_refl _) (by unfold maxLen; omega) (by rw [Array.size_setIfInBounds, hz]; simp)
  rw [Array.toList_setIfInBounds, e] at h
  unfold OwnT
  rw [List.length_set, List.length_replicate, List.map_set]
  exact h

set_option maxRecDepth 20000 in
set_option maxHeartbeats 4000000 in
theorem fitsC (t : Rx) (v : Value) (s : Txt) (w : World) (hA : Cels w v (post t)) (hl : (post t).length ≤ 60) (hs : s.length ≤ 1000) :
    Calls Tryz.prog 18 #[v, .string (strT s)] w fun e w' => ∃ r : Bool, e = .returned (.bool r) ∧ (r = true ↔ Mat t s) ∧ Below w.heap.size w w' := by
  have hp := post_pos t
  have hA0 := hid hA
  obtain ⟨av, cv, rfl, _⟩ := hA
  have hsz := strT_size s
  obtain ⟨N, hN⟩ : ∃ N, Hid (N = s.length + 1) := ⟨_, hid rfl⟩
  have hN' := hN.out
  have hw : IntKind.i64.wrap ((s.length : Int) + 1) = (N : Int) := by rw [IntKind.wrap_i64]; omega
  have hN0 : (0 : Int) < (N : Int) := by omega
  have hsN : (s.length : Int) < (N : Int) := by omega
  have hmk := run_make_row' (P := Tryz.prog) 82 4 (.bool false) 1 Tryz.underlying82 Tryz.info4 rfl .i64 .i64 N (by omega) (by omega)
  have hal := hid (al' w (.cells (madeCells #[.bool false] N) 4))
  have hO0 := own_made0 w N (fun _ => false) (by omega)
  rw [tabK_zero] at hO0
  have hO1 := own_start w N (by omega)
  have c0 := OwnT.at hO0 (j := 0) (x := false) (by rw [List.getElem?_replicate]; rw [if_pos (by omega)])
  have c1 := OwnT.free hO0 (by simp) 0
  have hbl := hid (al' w (.cells ((madeCells #[.bool false] N).setIfInBounds 0 (.bool true)) 4))
  have hB1 := hid (bls_n hO1 (by simp))
  have hst := hid (stp_start t s _ (fun i => on_start N i (by omega)))
  have GG := hid (fitsAtC t _ _ (post t) [] [] (((post t).length : Int) - 1) s _ _ (hA0.out.keep hbl.out) hl (by simp) (by simp) hB1.out (by simp; omega) hs)
  generalize (List.replicate N false).set 0 true = bs at hst hB1 GG hO1
  generalize (post t).length = L at hp hl GG hA0 ⊢
  clear hO0 hO1 hN' hA0
  go_enter Tryz.func18, Tryz.ntmps18
  go_wp2_with (go_at_call 32; refine GG.out.mono ?_; rintro e w1 ⟨nv, nx, rfl, h1, h2, h3, hb1⟩; have hlen := h1.len; have h1 := hid h1; obtain ⟨na, nc, hnv⟩ := h2.shape; rw [hlen, ← hN.out] at hnv; subst hnv; obtain ⟨nb, no, hna, hlt, n0⟩ := bls_atn h2 (j := s.length) (by omega); subst hna; have hon := hid (h1.out.on s.length (Nat.le_refl _)); have hx := hid (nx_get nx s.length (by omega)); rw [hx.out] at n0; clear hx)
  go_ret
  exact ⟨_, rfl, (on_getD (by omega)).symm.trans (hon.out.trans hst.out), bl_step hbl.out hb1⟩

end Go.Proofs.YtonlcnmlklaicaaGreatDoor
