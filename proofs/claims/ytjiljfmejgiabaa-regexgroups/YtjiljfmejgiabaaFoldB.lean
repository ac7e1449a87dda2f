/- fold, of truths. -/
import Derived.Test.YtjiljfmejgiabaaNullP
namespace Go.Proofs.Ytjiljfmejgiabaa
open Go.RowKit

theorem Try.infoB4 : (Try.prog.info? 4).map (fun i => (i.zero, i.size, i.bytes)) = some (some (.bool false), 1, 1) := by kernel_rfl
theorem Try.sizeB (u : World) : (sizeOf 4).run Try.prog u = .ok 1 u := by kernel_rfl
theorem Try.elemB : Try.prog.elem 41 = 4 := by kernel_rfl
theorem cutB_hi (a : Option Addr) (g n cap r : Nat) (ha : a = some ⟨g, 0, none⟩) (h : r ≤ cap) (u : World) : (Instr.slice 41 (.slice a n cap) none (some (.int .i64 (r : Int))) none).run Try.prog u = .ok (.slice (some ⟨g, 0, none⟩) r cap) u := by
  subst ha
  rw [run_slice_h u 41 _ _ _ Try.underlying41 .i64 _ (by omega) (by omega), Try.elemB, Try.sizeB]
  simp [sliced, Addr.add]
theorem cutB_lo (g n cap r m : Nat) (hn : n = r + m) (hm : 0 < m) (h : n ≤ cap) (u : World) : (Instr.slice 41 (.slice (some ⟨g, 0, none⟩) n cap) (some (.int .i64 (r : Int))) none none).run Try.prog u = .ok (.slice (some ⟨g, r, none⟩) m (cap - r)) u := by
  rw [run_slice_l u 41 _ _ _ Try.underlying41 .i64 _ (by omega) (by omega), Try.elemB, Try.sizeB]
  have h1 : ¬ cap = r := by omega
  have h2 : n - r = m := by omega
  simp [sliced, Addr.add, h1, h2]
  exact fun h => h.symm
theorem cutB_end (g n cap : Nat) : ∃ pv, ∀ u : World, (Instr.slice 41 (.slice (some ⟨g, 0, none⟩) n cap) (some (.int .i64 (n : Int))) none none).run Try.prog u = .ok pv u := by
  refine ⟨sliced (some ⟨g, 0, none⟩) n n cap 1, fun u => ?_⟩
  rw [run_slice_l u 41 _ _ _ Try.underlying41 .i64 _ (by omega) (by omega), Try.elemB, Try.sizeB]
  simp
theorem cutB_nil (u : World) : (Instr.slice 41 (.slice none 0 0) (some (.int .i64 0)) none none).run Try.prog u = .ok (.slice none 0 0) u := by
  rw [run_slice_l u 41 _ _ _ Try.underlying41 .i64 _ (by omega) (by omega), Try.elemB, Try.sizeB]
  simp [sliced]
theorem cutB_nil2 (u : World) : (Instr.slice 41 (.slice none 0 0) none (some (.int .i64 0)) none).run Try.prog u = .ok (.slice none 0 0) u := by
  rw [run_slice_h u 41 _ _ _ Try.underlying41 .i64 _ (by omega) (by omega), Try.elemB, Try.sizeB]
  simp [sliced]

def valsB (st : List Rx) : List Bool := st.reverse.map Rx.null
theorem valsB_len (st : List Rx) : (valsB st).length = st.length := by simp [valsB]
theorem valsB_cons (t : Rx) (st : List Rx) : valsB (t :: st) = valsB st ++ [t.null] := by simp [valsB]
/-- a cell's truth: from how many of those behind, and what -/
def NullAt (c : Cel) (vs : List Bool) (m r : Nat) (y : Bool) : Prop :=
  wants c.op = (m : Int) ∧ vs.length = r + m ∧
  (m = 0 → ∀ v u, Calls Try.prog 17 #[celV c.op c.s.a c.s.b c.s.c c.s.d, v] u fun e w' => e = .returned (.bool y) ∧ Below u.heap.size u w') ∧
  (0 < m → ∀ g cap u, (∀ j (hj : j < vs.length), u.cell? ⟨g, j, none⟩ = some (.bool vs[j])) → Calls Try.prog 17 #[celV c.op c.s.a c.s.b c.s.c c.s.d, .slice (some ⟨g, r, none⟩) m cap] u fun e w' => e = .returned (.bool y) ∧ Below u.heap.size u w')
theorem null_step (st : List Rx) (c : Cel) (h0 : 0 ≤ wants c.op) (h1 : wants c.op ≤ (st.length : Int)) : ∃ m r y, NullAt c (valsB st) m r y ∧ valsB (stepS st c) = (valsB st).take r ++ [y] := by
  obtain ⟨op, S⟩ := c
  simp only at h0 h1
  rcases wants_cases op h0 with ⟨rfl, hw⟩ | ⟨rfl, hw⟩ | ⟨rfl, hw⟩ | ⟨rfl, hw⟩ | ⟨rfl, hw⟩ | ⟨rfl, hw⟩ | ⟨rfl, hw⟩
  · refine ⟨0, (valsB st).length, false, ⟨hw, rfl, fun _ v u => nullLeaf 1 _ _ _ _ false v u (by simp), fun h => absurd h (by omega)⟩, ?_⟩
    rw [List.take_length]
    exact valsB_cons _ _
  · refine ⟨0, (valsB st).length, true, ⟨hw, rfl, fun _ v u => nullLeaf 2 _ _ _ _ true v u (by simp), fun h => absurd h (by omega)⟩, ?_⟩
    rw [List.take_length]
    exact valsB_cons _ _
  · rw [hw] at h1
    match st, h1 with
    | b :: a :: r, _ =>
      have hl := valsB_len r
      have hv : valsB (b :: a :: r) = valsB r ++ [a.null, b.null] := by rw [valsB_cons, valsB_cons]; simp
      refine ⟨2, r.length, a.null && b.null, ⟨hw, by rw [hv]; simp [hl], fun h => absurd h (by omega), fun _ g cap u hc => ?_⟩, ?_⟩
      · have e0 := hc r.length (by rw [hv]; simp [hl])
        have e1 := hc (r.length + 1) (by rw [hv]; simp [hl])
        simp only [hv] at e0 e1
        rw [List.getElem_append_right (by omega)] at e0 e1
        simp [hl] at e0 e1
        exact (nullTwo 3 S.a S.b S.c S.d a.null b.null g r.length cap u (Or.inl rfl) e0 e1).mono fun e w' h => h
      · rw [hv, show stepS (b :: a :: r) ⟨3, S⟩ = .cat a b :: r by simp [stepS], valsB_cons, ← hl, List.take_left]
        show _ ++ [b.null && a.null] = _
        rw [Bool.and_comm]
    | [_], h => simp at h
    | [], h => simp at h
  · rw [hw] at h1
    match st, h1 with
    | b :: a :: r, _ =>
      have hl := valsB_len r
      have hv : valsB (b :: a :: r) = valsB r ++ [a.null, b.null] := by rw [valsB_cons, valsB_cons]; simp
      refine ⟨2, r.length, a.null || b.null, ⟨hw, by rw [hv]; simp [hl], fun h => absurd h (by omega), fun _ g cap u hc => ?_⟩, ?_⟩
      · have e0 := hc r.length (by rw [hv]; simp [hl])
        have e1 := hc (r.length + 1) (by rw [hv]; simp [hl])
        simp only [hv] at e0 e1
        rw [List.getElem_append_right (by omega)] at e0 e1
        simp [hl] at e0 e1
        exact (nullTwo 4 S.a S.b S.c S.d a.null b.null g r.length cap u (Or.inr rfl) e0 e1).mono fun e w' h => h
      · rw [hv, show stepS (b :: a :: r) ⟨4, S⟩ = .or a b :: r by simp [stepS], valsB_cons, ← hl, List.take_left]
        show _ ++ [b.null || a.null] = _
        rw [Bool.or_comm]
    | [_], h => simp at h
    | [], h => simp at h
  · rw [hw] at h1
    match st, h1 with
    | a :: r, _ =>
      have hl := valsB_len r
      refine ⟨1, r.length, true, ⟨hw, by rw [valsB_cons]; simp [hl], fun h => absurd h (by omega), fun _ g cap u hc => nullLeaf 5 _ _ _ _ true _ u (by simp)⟩, ?_⟩
      rw [show stepS (a :: r) ⟨5, S⟩ = .star a :: r by simp [stepS], valsB_cons, valsB_cons, ← hl, List.take_left]
      rfl
    | [], h => simp at h
  · rw [hw] at h1
    match st, h1 with
    | a :: r, _ =>
      have hl := valsB_len r
      refine ⟨1, r.length, a.null, ⟨hw, by rw [valsB_cons]; simp [hl], fun h => absurd h (by omega), fun _ g cap u hc => ?_⟩, ?_⟩
      · have e0 := hc r.length (by rw [valsB_cons]; simp [hl])
        simp only [valsB_cons] at e0
        rw [List.getElem_append_right (by omega)] at e0
        simp [hl] at e0
        exact nullOne S.a S.b S.c S.d a.null g r.length cap u e0
      · rw [show stepS (a :: r) ⟨6, S⟩ = .plus a :: r by simp [stepS], valsB_cons, valsB_cons, ← hl, List.take_left]
        rfl
    | [], h => simp at h
  · rw [hw] at h1
    match st, h1 with
    | a :: r, _ =>
      have hl := valsB_len r
      refine ⟨1, r.length, true, ⟨hw, by rw [valsB_cons]; simp [hl], fun h => absurd h (by omega), fun _ g cap u hc => nullLeaf 7 _ _ _ _ true _ u (by simp)⟩, ?_⟩
      rw [show stepS (a :: r) ⟨7, S⟩ = .opt a :: r by simp [stepS], valsB_cons, valsB_cons, ← hl, List.take_left]
      rfl
    | [], h => simp at h

abbrev OwnL (w : World) (B : Nat) (v : Value) (l : List Bool) : Prop := w.ownsRow B 4 1 v l.length (l.map Value.bool)
theorem OwnL.shape {w : World} {B : Nat} {v : Value} {l : List Bool} (h : OwnL w B v l) : (v = .slice none 0 0 ∧ l = []) ∨ ∃ g cap, v = .slice (some ⟨g, 0, none⟩) l.length cap ∧ l.length ≤ cap ∧ B ≤ g ∧ g < w.heap.size := by
  have h' := h
  rcases h.2 with ⟨rfl, h0⟩ | ⟨g, cap, cur, rfl, hb, _, hc, _⟩
  · exact Or.inl ⟨rfl, List.length_eq_zero_iff.1 h0⟩
  · exact Or.inr ⟨g, cap, rfl, hc, hb, (h'.lt g rfl).2⟩
theorem OwnL.at {w : World} {B g cap : Nat} {l : List Bool} (h : OwnL w B (.slice (some ⟨g, 0, none⟩) l.length cap) l) : ∀ j (hj : j < l.length), w.cell? ⟨g, j, none⟩ = some (.bool l[j]) := fun j hj => by
  have := h.cells rfl j (.bool l[j]) (by simp [hj])
  rw [Go.WideShapes.add_plain] at this
  simpa using this

theorem lain_size : ∀ st : List Rx, st.length ≤ (lain st).length
  | [] => Nat.le_refl _
  | x :: st => by
    have ih := lain_size st
    have := post_pos x
    have e : (lain (x :: st)).length = (lain st).length + (post x).length := by simp [lain]
    rw [e, List.length_cons]
    omega

set_option maxHeartbeats 4000000 in
theorem foldNull (v : Value) (t : Rx) (w : World) (hA : Cels w v (post t)) (ho : t.ok) (h60 : (post t).length ≤ 60) :
    Calls Try.prog 16 #[v, .func (.func 17) #[] #[]] w fun e w' => e = .returned (.bool t.null) ∧ Below w.heap.size w w' := by
  obtain ⟨i0, hi, hz0, hz1, hz2⟩ := info_parts Try.infoB4
  have hrt := right_post ho h60
  have hend : Hid (valsB (stK (post t) (post t).length) = [t.null]) := hid (by rw [stK_end]; rfl)
  obtain ⟨l, hl⟩ : ∃ l, l = post t := ⟨_, rfl⟩
  rw [← hl] at hA hrt hend h60
  have hpos : 0 < l.length := by rw [hl]; exact post_pos t
  obtain ⟨av, cv, rfl, _, _, hFl, hAt⟩ := hA
  have hAt := hid hAt
  have hstep := hid (fun k (hk : k < l.length) => null_step (stK l k) l[k] (stK_wants hrt k hk).1 (stK_wants hrt k hk).2)
  have hsuc := hid (fun k (hk : k < l.length) => stK_succ l k hk)
  have hk60 : Hid (∀ k, k ≤ l.length → (valsB (stK l k)).length ≤ 60) := hid (fun k hk => by
    rw [valsB_len]
    have h1 := stK_right hrt k hk
    obtain ⟨hkl, st, hd, hla, _⟩ := depth_stack l k _ h1
    have h2 := lain_size st
    rw [hla, List.length_take] at h2
    omega)
  have h00 := hid (show valsB (stK l 0) = [] from rfl)
  have GO := hid operandsC
  clear ho hrt hl
  generalize t.null = R at hend ⊢
  go_enter Try.func16, Try.ntmps16
  go_wp2
  go_loopw [5, 12] (fun dv i wr => ∃ k : Nat, k ≤ l.length ∧ i = .int .i64 k ∧ Hid (OwnL wr w.heap.size dv (valsB (stK l k))) ∧ Below w.heap.size w wr) (fun _ i _ => l.length - (intOf i).toNat)
  case atStart => exact ⟨0, Nat.zero_le _, rfl, hid (by rw [h00.out]; exact World.ownsRow_nil _ _ _ _), Below.refl _ _⟩
  case round =>
    obtain ⟨k, hk, rfl, hO, hbl⟩ := hrel
    have hn60 := hk60.out k hk
    by_cases hlt : k < l.length
    · have hltz : (k : Int) < (l.length : Int) := by omega
      obtain ⟨b', o', rfl, hb', hat0⟩ := hAt.out k hlt
      have hat := hat0.keep hbl
      clear hat0
      obtain ⟨m, r, y, ⟨hw, hlen, hz, hp⟩, hv⟩ := hstep.out k hlt
      rw [← hsuc.out k hlt] at hv
      have hv' := hid hv
      clear hv
      have hpick : Hid (m = 0 → ∀ v u, Calls Try.prog 17 #[celV l[k].op l[k].s.a l[k].s.b l[k].s.c l[k].s.d, v] u fun e w' => e = .returned (.bool y) ∧ Below u.heap.size u w') := hid hz
      generalize l[k] = c at hat hw hz hp hpick
      obtain ⟨op, S⟩ := c
      obtain ⟨sa, sb, sc, sd⟩ := S
      obtain ⟨d0, d1, d2, d3, d4⟩ := hat
      simp only at d0 d1 d2 d3 d4 hw hz hp
      have GO0 := hid (fun u => GO.out op u)
      rw [hw] at GO0
      generalize valsB (stK l k) = vs at hO hv' hlen hz hp hn60
      have hbb := hid (al' wr (.cells #[.int .i64 op, .int .u64 (sa : Int), .int .u64 (sb : Int), .int .u64 (sc : Int), .int .u64 (sd : Int)] 33))
      have hbd := hid (hbb.out.drew)
      have hc0 := heap_new wr (.cells #[.int .i64 op, .int .u64 (sa : Int), .int .u64 (sb : Int), .int .u64 (sc : Int), .int .u64 (sd : Int)] 33)
      obtain ⟨q0, q1, q2, q3, q4⟩ := cells5 hc0
      clear hw hc0
      rcases hO.out.shape with ⟨hd, hvs⟩ | ⟨g, cap, hd, hcap, hg1, hg2⟩
      · subst hvs
        subst hd
        have hm : m = 0 := by simp at hlen; omega
        have hr : r = 0 := by simp at hlen; omega
        subst hm hr
        have GC := hid (fun u => hz rfl (.slice none 0 0) u)
        have s1 := cutB_nil
        have s2 := cutB_nil2
        have hOn := hid (fun u => World.ownsRow_nil u w.heap.size 4 1)
        clear hz hp hlen hO hpick hn60
        go_wp2_with (go_at_call 13; refine (GO0.out _).mono ?_; rintro e u1 ⟨rfl, hu⟩; subst u1)
        go_region_with (first
          | (go_at_call 17; refine (GC.out _).mono ?_; rintro e w1 ⟨rfl, hb1⟩; have hb1' := bl_step hbd.out hb1)
          | fail)
        all_goals
          go_wp2_with (at_builtin; refine wpList_append_lies _ (by rfl) _ _ _ (by rfl) w.heap.size 4 i0 (.bool false) 1 1 Try.underlying41 hi hz0 hz1 hz2 rfl (by decide) (.slice none 0 0) 0 [] (by rfl) (hOn.out _) ⟨w1.heap.size, 0, none⟩ 1 1 [.bool y] (by rfl) (by rfl) (World.news_of_block (heap_new w1 (.cells #[.bool y] 4))) (by simp [Value.oneCell']) (by omega) (by (unfold maxLen); omega) (by omega) (Nat.le_trans hbl.size (Nat.le_trans hb1'.size (by simp))) (w1.heap.size + 1) (by simp) ?_; intro g' cap' w2 hown hgrow hat hlt')
          go_roundw
          case rel =>
            refine ⟨k + 1, by omega, by go_num, hid ?_, ?_⟩
            · rw [hv'.out]; exact hown
            · exact (bl_step (bl_step hbl hb1') (al' w1 _)).grown hgrow (Nat.le_trans hbl.size (Nat.le_trans hb1'.size (by simp))) (fun i hi => by cases hi)
          case measure => simp [intOf]; omega
      · subst hd
        have hwrap : IntKind.i64.wrap ((vs.length : Int) - (m : Int)) = (r : Int) := by rw [IntKind.wrap_i64]; omega
        have hr0 : (vs.length : Int) - (m : Int) = (r : Int) := by omega
        have s2 := cutB_hi _ g vs.length cap r rfl (by omega)
        have hOc := own_cut hO.out r (by omega)
        have hOx : Hid (∀ u, Below wr.heap.size wr u → u.ownsRow w.heap.size 4 1 (.slice (some ⟨g, 0, none⟩) r cap) r ((vs.map Value.bool).take (r * 1))) := hid (fun u hu => own_below hOc hu)
        have hcells := hid (hO.out.at)
        have GC : Hid (∀ pv u, Below wr.heap.size wr u → (0 < m → pv = .slice (some ⟨g, r, none⟩) m (cap - r)) → Calls Try.prog 17 #[celV op sa sb sc sd, pv] u fun e w' => e = .returned (.bool y) ∧ Below u.heap.size u w') := hid (fun pv u hu hpv => by
          rcases Nat.eq_zero_or_pos m with hm | hm
          · exact hz hm pv u
          · rw [hpv hm]; exact hp hm g (cap - r) u (fun j hj => keep_cell hu (hcells.out j hj)))
        have hcr : (m = 0 ∧ r = vs.length ∧ cap = r) ∨ (m = 0 ∧ r = vs.length ∧ ¬ cap = r) ∨ (0 < m ∧ ¬ cap = r ∧ vs.length - r = m) := by omega
        have hr60 : r ≤ 60 := by omega
        have hmap : Hid ((vs.map Value.bool).take (r * 1) ++ [.bool y] = ((vs.take r) ++ [y]).map Value.bool) := hid (by rw [Nat.mul_one, List.map_append, List.map_take]; rfl)
        have hln : Hid (((vs.take r) ++ [y]).length = r + 1) := hid (by rw [List.length_append, List.length_take]; simp; omega)
        have hgB := hid hg1
        clear hz hp hO hpick hn60 hOc hcells hg1 hg2
        generalize (vs.map Value.bool).take (r * 1) = xs at hOx hmap
        generalize vs.length = n at s2 hwrap hr0 hlen hcap hcr
        clear hlen
        have fin : ∀ w1 w2 g' cap', Below wr.heap.size wr w1 → w2.ownsRow w.heap.size 4 1 (.slice (some ⟨g', 0, none⟩) (r + 1) cap') (r + 1) (xs ++ [.bool y]) → (w1.alloc (.cells #[.bool y] 4)).grownBy w2 (some g) → Hid (OwnL w2 w.heap.size (.slice (some ⟨g', 0, none⟩) (r + 1) cap') (valsB (stK l (k + 1)))) ∧ Below w.heap.size w w2 := fun w1 w2 g' cap' hb1' hown hgrow => by
          refine ⟨hid ?_, ?_⟩
          · rw [hv'.out]
            unfold OwnL
            rw [← hmap.out, hln.out]
            exact hown
          · refine (bl_step (bl_step hbl hb1') (al' w1 _)).grown hgrow (Nat.le_trans hbl.size (Nat.le_trans hb1'.size (by simp))) (fun i hi => ?_)
            simp at hi
            subst hi
            exact hgB.out
        have fin := hid fin
        rcases hcr with ⟨hm0, hrn, hcr⟩ | ⟨hm0, hrn, hcr⟩ | ⟨hm0, hcr, hnm⟩
        · subst hm0
          subst hrn
          subst cap
          clear hr0 hwrap hcap
          go_wp2_with (go_at_call 13; refine (GO0.out _).mono ?_; rintro e u1 ⟨rfl, hu⟩; subst u1)
          go_region_with (first
            | (go_at_call 17; refine (GC.out _ _ hbd.out (by first | (intro h0; exact absurd h0 (by omega)) | (intro h0; rfl) | (intro h0; simp [Addr.add, hnm]) | (intro h0; simp [Addr.add]; omega))).mono ?_; rintro e w1 ⟨rfl, hb1⟩; have hb1' := bl_step hbd.out hb1)
            | fail)
          all_goals
            go_wp2_with (at_builtin; refine wpList_append_lies _ (by rfl) _ _ _ (by rfl) w.heap.size 4 i0 (.bool false) 1 1 Try.underlying41 hi hz0 hz1 hz2 rfl (by decide) (.slice (some ⟨g, 0, none⟩) r _) r xs (by rfl) (hOx.out _ (bl_step hb1' (al' w1 _))) ⟨w1.heap.size, 0, none⟩ 1 1 [.bool y] (by rfl) (by rfl) (World.news_of_block (heap_new w1 (.cells #[.bool y] 4))) (by simp [Value.oneCell']) (by omega) (by (unfold maxLen); omega) (by omega) (Nat.le_trans hbl.size (Nat.le_trans hb1'.size (by simp))) (w1.heap.size + 1) (by simp) ?_; intro g' cap' w2 hown hgrow hat hlt')
            go_roundw
            case rel =>
              obtain ⟨f1, f2⟩ := fin.out w1 w2 g' cap' hb1' hown hgrow
              exact ⟨k + 1, by omega, by go_num, f1, f2⟩
            case measure => simp [intOf]; omega
        · subst hm0
          subst hrn
          clear hr0 hwrap hcap
          go_wp2_with (go_at_call 13; refine (GO0.out _).mono ?_; rintro e u1 ⟨rfl, hu⟩; subst u1)
          go_region_with (first
            | (go_at_call 17; refine (GC.out _ _ hbd.out (by first | (intro h0; exact absurd h0 (by omega)) | (intro h0; rfl) | (intro h0; simp [Addr.add, hnm]) | (intro h0; simp [Addr.add]; omega))).mono ?_; rintro e w1 ⟨rfl, hb1⟩; have hb1' := bl_step hbd.out hb1)
            | fail)
          all_goals
            go_wp2_with (at_builtin; refine wpList_append_lies _ (by rfl) _ _ _ (by rfl) w.heap.size 4 i0 (.bool false) 1 1 Try.underlying41 hi hz0 hz1 hz2 rfl (by decide) (.slice (some ⟨g, 0, none⟩) r _) r xs (by rfl) (hOx.out _ (bl_step hb1' (al' w1 _))) ⟨w1.heap.size, 0, none⟩ 1 1 [.bool y] (by rfl) (by rfl) (World.news_of_block (heap_new w1 (.cells #[.bool y] 4))) (by simp [Value.oneCell']) (by omega) (by (unfold maxLen); omega) (by omega) (Nat.le_trans hbl.size (Nat.le_trans hb1'.size (by simp))) (w1.heap.size + 1) (by simp) ?_; intro g' cap' w2 hown hgrow hat hlt')
            go_roundw
            case rel =>
              obtain ⟨f1, f2⟩ := fin.out w1 w2 g' cap' hb1' hown hgrow
              exact ⟨k + 1, by omega, by go_num, f1, f2⟩
            case measure => simp [intOf]; omega
        · clear hwrap
          go_wp2_with (go_at_call 13; refine (GO0.out _).mono ?_; rintro e u1 ⟨rfl, hu⟩; subst u1)
          go_region_with (first
            | (go_at_call 17; refine (GC.out _ _ hbd.out (by first | (intro h0; exact absurd h0 (by omega)) | (intro h0; rfl) | (intro h0; simp [Addr.add, hnm]) | (intro h0; simp [Addr.add]; omega))).mono ?_; rintro e w1 ⟨rfl, hb1⟩; have hb1' := bl_step hbd.out hb1)
            | fail)
          all_goals
            go_wp2_with (at_builtin; refine wpList_append_lies _ (by rfl) _ _ _ (by rfl) w.heap.size 4 i0 (.bool false) 1 1 Try.underlying41 hi hz0 hz1 hz2 rfl (by decide) (.slice (some ⟨g, 0, none⟩) r _) r xs (by rfl) (hOx.out _ (bl_step hb1' (al' w1 _))) ⟨w1.heap.size, 0, none⟩ 1 1 [.bool y] (by rfl) (by rfl) (World.news_of_block (heap_new w1 (.cells #[.bool y] 4))) (by simp [Value.oneCell']) (by omega) (by (unfold maxLen); omega) (by omega) (Nat.le_trans hbl.size (Nat.le_trans hb1'.size (by simp))) (w1.heap.size + 1) (by simp) ?_; intro g' cap' w2 hown hgrow hat hlt')
            go_roundw
            case rel =>
              obtain ⟨f1, f2⟩ := fin.out w1 w2 g' cap' hb1' hown hgrow
              exact ⟨k + 1, by omega, by go_num, f1, f2⟩
            case measure => simp [intOf]; omega

    · have hltz : ¬ (k : Int) < (l.length : Int) := by omega
      have e : k = l.length := by omega
      subst e
      rw [hend.out] at hO
      rcases hO.out.shape with ⟨_, hvs⟩ | ⟨g, cap, hd, hcap, hg1, hg2⟩
      · cases hvs
      · subst hd
        have hc := hO.out.at 0 (by simp)
        simp at hc
        clear hn60 hO
        go_wp2
        go_ret
        exact ⟨rfl, hbl⟩

theorem nullPNo (v : Value) (l : List Cel) (w : World) (hA : Cels w v l) (hr : rightB l = false) : Calls Try.prog 9 #[v] w fun e w' => e = .returned (.bool false) ∧ Below w.heap.size w w' := by
  have G := hid (rightP v l w hA)
  rw [hr] at G
  obtain ⟨av, cv, rfl, _⟩ := hA
  go_enter Try.func9, Try.ntmps9
  go_wp2_with (go_at_call 6; refine G.out.mono ?_; rintro e w1 ⟨rfl, hb1⟩)
  go_ret
  exact ⟨rfl, hb1⟩
theorem nullPYes (v : Value) (t : Rx) (w : World) (hA : Cels w v (post t)) (ho : t.ok) (h60 : (post t).length ≤ 60) : Calls Try.prog 9 #[v] w fun e w' => e = .returned (.bool t.null) ∧ Below w.heap.size w w' := by
  have G := hid (rightP v _ w hA)
  rw [right_post ho h60] at G
  have GF := hid (fun u (hu : Below w.heap.size w u) => foldNull v t u (hA.keep hu) ho h60)
  obtain ⟨av, cv, rfl, _⟩ := hA
  generalize (post t).length = n at G GF
  generalize t.null = R at GF ⊢
  go_enter Try.func9, Try.ntmps9
  go_wp2_with (first
    | (go_at_call 6; refine G.out.mono ?_; rintro e w1 ⟨rfl, hb1⟩)
    | (go_at_call 16; refine (GF.out _ hb1).mono ?_; rintro e w2 ⟨rfl, hb2⟩))
  go_ret
  exact ⟨rfl, bl_step hb1 hb2⟩

end Go.Proofs.Ytjiljfmejgiabaa
