/- topiaryref10.Same: are tokens alike? topiarylaw10.built, of the example's texts; topiarylaw10.wakes. The arguments of layer 6's laws, opened: cells, and how many bytes they take. The arguments of layer 8's laws, opened: automata, rules. -/
import Derived.Test.YtonlcnmlklaicaaGreatDoorJ33
import Derived.Test.YtonlcnmlklaicaaGreatDoorJ25
import Derived.Test.YtonlcnmlklaicaaGreatDoorJ32
import Derived.Test.YtonlcnmlklaicaaGreatDoorJ6
import Derived.BigRegion
import Derived.ChangeSlices
import Derived.Deep.Slices
import Derived.WideKeyArr2
import Derived.SizedLaws
namespace Go.Proofs.YtonlcnmlklaicaaGreatDoor
open Go.RowKit Go.Maps

theorem own_tok {w : World} {B : Nat} {v : Value} {l : List Tk} (h : OwnK w B v l) {k : Nat} (hk : k < l.length) : ∃ g c, v = .slice (some ⟨g, 0, none⟩) l.length c ∧ w.cell? ⟨g, k * 3, none⟩ = some (.int .i64 (l.getD k (0, 0, 0)).1) ∧ w.cell? ⟨g, k * 3 + 1, none⟩ = some (.int .i64 ((l.getD k (0, 0, 0)).2.1 : Int)) ∧ w.cell? ⟨g, k * 3 + 2, none⟩ = some (.int .i64 ((l.getD k (0, 0, 0)).2.2 : Int)) := by
  obtain ⟨g, c, e, _⟩ := own_form3 h (show 0 < l.length by omega)
  have ho := h
  rw [e] at ho
  have hfl : ∀ (P : List Tk) (k : Nat), k < P.length → (P.flatMap tkV)[k * 3]? = some (.int .i64 (P.getD k (0, 0, 0)).1) ∧ (P.flatMap tkV)[k * 3 + 1]? = some (.int .i64 ((P.getD k (0, 0, 0)).2.1 : Int)) ∧ (P.flatMap tkV)[k * 3 + 2]? = some (.int .i64 ((P.getD k (0, 0, 0)).2.2 : Int)) := by
    intro P
    induction P with
    | nil => intro k hk; exact absurd hk (Nat.not_lt_zero _)
    | cons a l ih =>
      intro k hk
      rw [List.flatMap_cons]
      cases k with
      | zero => exact ⟨rfl, rfl, rfl⟩
      | succ k =>
        have h1 := ih k (by simpa using hk)
        have e1 : (k + 1) * 3 = (tkV a).length + k * 3 := by show _ = 3 + _; omega
        have e2 : (k + 1) * 3 + 1 = (tkV a).length + (k * 3 + 1) := by show _ = 3 + _; omega
        have e3 : (k + 1) * 3 + 2 = (tkV a).length + (k * 3 + 2) := by show _ = 3 + _; omega
        rw [e3, List.getElem?_append_right (Nat.le_add_right _ _), Nat.add_sub_cancel_left, e2, List.getElem?_append_right (Nat.le_add_right _ _), Nat.add_sub_cancel_left, e1, List.getElem?_append_right (Nat.le_add_right _ _), Nat.add_sub_cancel_left]
        exact h1
  obtain ⟨f1, f2, f3⟩ := hfl l k hk
  exact ⟨g, c, e, (ho.cellAt (k * 3) (by omega)).trans f1, (ho.cellAt (k * 3 + 1) (by omega)).trans f2, (ho.cellAt (k * 3 + 2) (by omega)).trans f3⟩

set_option maxRecDepth 20000 in
set_option maxHeartbeats 4000000 in
theorem tkSame (v v' : Value) (B B' : Nat) (l l' : List Tk) (w : World) (h : OwnK w B v l) (h' : OwnK w B' v' l') (hl : l.length ≤ 1000000) (hl' : l'.length ≤ 1000000) :
    Calls Tryz.prog 13 #[v, v'] w fun e w' => e = .returned (.bool (decide (l = l'))) ∧ Below w.heap.size w w' := by
  obtain ⟨a, c, rfl⟩ := own_shape h
  obtain ⟨a', c', rfl⟩ := own_shape h'
  by_cases hn : l.length = l'.length
  · obtain ⟨b, hb⟩ : ∃ b, Hid (decide (l = l') = b) := ⟨_, hid rfl⟩
    rw [hb.out]
    have hH := hid h
    have hH' := hid h'
    have hnH := hid hn
    rw [← hn]
    rw [← hn] at hl'
    obtain ⟨n, hnn⟩ : ∃ n, Hid (l.length = n) := ⟨_, hid rfl⟩
    rw [hnn.out] at hl hl' ⊢
    clear h h' hn
    go_enter Tryz.func13, Tryz.ntmps13
    go_wp2
    go_loopw [5] (fun i wr => ∃ k : Nat, k ≤ n ∧ i = .int .i64 (k : Int) ∧ Hid (∀ j, j < k → l.getD j (0, 0, 0) = l'.getD j (0, 0, 0)) ∧ Hid (Below w.heap.size w wr)) (fun i _ => n - (intOf i).toNat)
    case atStart => exact ⟨0, Nat.zero_le _, rfl, hid (fun j hj => absurd hj (Nat.not_lt_zero _)), hid (Below.refl _ _)⟩
    case round =>
      obtain ⟨k, hk, rfl, hS, hw⟩ := hrel
      by_cases hlt : k < n
      · have hltz : (k : Int) < (n : Int) := by omega
        obtain ⟨g, c1, he, x0, x1, x2⟩ := own_tok (own_below hH.out hw.out) (k := k) (by rw [hnn.out]; exact hlt)
        obtain ⟨g', c1', he', y0, y1, y2⟩ := own_tok (own_below hH'.out hw.out) (k := k) (by rw [← hnH.out, hnn.out]; exact hlt)
        injection he with he _ hc
        injection he' with he' _ hc'
        subst he he' hc hc'
        obtain ⟨t, ht⟩ : ∃ t, Hid (l.getD k (0, 0, 0) = t) := ⟨_, hid rfl⟩
        obtain ⟨t', ht'⟩ : ∃ t, Hid (l'.getD k (0, 0, 0) = t) := ⟨_, hid rfl⟩
        rw [ht.out] at x0 x1 x2
        rw [ht'.out] at y0 y1 y2
        have hwd := hid ((hw.out).drew)
        by_cases e : t = t'
        · subst e
          have hS1 : Hid (∀ j, j < k + 1 → l.getD j (0, 0, 0) = l'.getD j (0, 0, 0)) := hid (fun j hj => by
            rcases Nat.lt_or_ge j k with h9 | h9
            · exact hS.out j h9
            · obtain rfl : j = k := by omega
              rw [ht.out, ht'.out])
          obtain ⟨t0, t1, t2⟩ := t
          go_wp2_with fail
          go_region
          go_wp2
          go_roundw
          case rel => exact ⟨k + 1, by omega, by go_num, hS1, by first | exact hwd | exact hw⟩
          case measure => simp [intOf]; omega
        · have hne : decide (l = l') = false := decide_eq_false (fun h9 => e (by rw [← ht.out, ← ht'.out, h9]))
          obtain ⟨t0, t1, t2⟩ := t
          obtain ⟨s0, s1, s2⟩ := t'
          by_cases e0 : t0 = s0
          · subst e0
            by_cases e1 : t1 = s1
            · subst e1
              have e2 : ¬ t2 = s2 := fun h9 => e (by rw [h9])
              have e2z : ¬ (t2 : Int) = (s2 : Int) := by omega
              have e2b : ((t2 : Int) == (s2 : Int)) = false := beq_eq_false_iff_ne.2 e2z
              clear e e2 hS ht ht'
              go_wp2_with fail
              go_region
              go_wp2
              go_ret
              exact ⟨by rw [← hb.out, hne]; rfl, hwd.out⟩
            · have e1z : ¬ (t1 : Int) = (s1 : Int) := by omega
              have e1b : ((t1 : Int) == (s1 : Int)) = false := beq_eq_false_iff_ne.2 e1z
              clear e e1 hS ht ht'
              go_wp2_with fail
              go_region
              go_wp2
              go_ret
              exact ⟨by rw [← hb.out, hne]; rfl, hwd.out⟩
          · have e0b : (t0 == s0) = false := beq_eq_false_iff_ne.2 e0
            clear e hS ht ht'
            go_wp2_with fail
            go_region
            go_wp2
            go_ret
            exact ⟨by rw [← hb.out, hne]; rfl, hwd.out⟩
      · have hltz : ¬ (k : Int) < (n : Int) := by omega
        have hkn : k = n := by omega
        subst hkn
        have hyes : decide (l = l') = true := decide_eq_true (List.ext_getElem (hnH.out) (fun j h1 h2 => by
          have h3 := hS.out j (by rw [← hnn.out]; exact h1)
          rw [List.getD_eq_getElem?_getD, List.getD_eq_getElem?_getD, List.getElem?_eq_getElem h1, List.getElem?_eq_getElem h2] at h3
          exact h3))
        go_wp2
        go_ret
        exact ⟨by rw [← hb.out, hyes]; rfl, hw.out⟩
  · have hne : decide (l = l') = false := decide_eq_false (fun h9 => hn (by rw [h9]))
    rw [hne]
    have hnb : ((l.length : Int) == (l'.length : Int)) = false := by rw [beq_eq_false_iff_ne]; omega
    have hnz : ¬ (l.length : Int) = (l'.length : Int) := by omega
    clear h h' hne hn
    generalize l.length = n at *
    generalize l'.length = n' at *
    go_enter Tryz.func13, Tryz.ntmps13
    go_wp2
    go_ret
    exact ⟨rfl, Below.refl _ _⟩

end Go.Proofs.YtonlcnmlklaicaaGreatDoor
namespace Go.Proofs.YtonlcnmlklaicaaGreatDoor
open Go.RowKit

/-- numbers do not lie in a block of two slices -/
theorem nums_offT {w : World} {v x0 x1 : Value} {l : List Int} {rb : Nat} {T : TypeId} (h : Nums w v l) (hr : w.heap[rb]? = some (.cells #[x0, x1] T (0, 0))) (h0 : ∀ k n, x0 ≠ .int k n) (h1 : ∀ k n, x1 ≠ .int k n) : Off (oneBlk rb) v := fun ad n c e hn hf => by
  obtain ⟨a, cap, e2, hc, hz, hat⟩ := h
  rw [e] at e2
  injection e2 with e3 e4 e5
  subst e4
  obtain ⟨b, o, e6, hlt, hcell⟩ := hat 0 hn
  rw [← e3] at e6
  injection e6 with e6
  subst e6
  have hb : b = rb := hf
  subst hb
  have hb2 : w.cell? ⟨b, o + 0, none⟩ = #[x0, x1][o]? := by simp [World.cell?, hr]
  rw [hb2] at hcell
  match o, hcell with
  | 0, hcell => injection hcell with hcell; exact h0 _ _ hcell
  | 1, hcell => injection hcell with hcell; exact h1 _ _ hcell
  | o + 2, hcell => simp at hcell
theorem numss_setT {w w' : World} {v x0 x1 : Value} {N : List (List Int)} {rb : Nat} {T : TypeId} (h : Numss w v N) (hl : 2 < N.length) (hr : w.heap[rb]? = some (.cells #[x0, x1] T (0, 0))) (h0 : ∀ k n, x0 ≠ .int k n) (h1 : ∀ k n, x1 ≠ .int k n) (hk : Kept (oneBlk rb) w w') : Numss w' v N := by
  obtain ⟨a, cap, rfl, hc, hz, hat⟩ := h
  refine ⟨a, cap, rfl, hc, hz, fun j hj => ?_⟩
  obtain ⟨b, o, x, rfl, hlt, h2, h3⟩ := hat j hj
  have hb : ¬ oneBlk rb b := fun e => by
    have e1 : b = rb := e
    subst e1
    obtain ⟨b', o', x', e', _, h4, _⟩ := hat 2 hl
    cases e'
    have hb2 : w.cell? ⟨b, o + 2, none⟩ = #[x0, x1][o + 2]? := by simp [World.cell?, hr]
    rw [hb2] at h4
    simp at h4
  exact ⟨b, o, x, rfl, Nat.lt_of_lt_of_le hlt hk.size, hk.cell h2 hlt hb, h3.kept hk (nums_offT h3 hr h0 h1)⟩
/-- the first k rules of the example -/
def exT (k : Nat) : List (List Cel) := [post lwA, post lwB, post lwC].take k
set_option maxRecDepth 20000 in
set_option maxHeartbeats 4000000 in
theorem builtEx10 (g : Nat) (w : World) (hT : Tab w) (hg : w.heap[g]? = some (.cells #[.string ⟨#[97]⟩, .string ⟨#[97, 98]⟩, .string ⟨#[98, 43]⟩] 9 (0, 0))) :
    Calls Tryz.prog 19 #[.slice (some ⟨g, 0, none⟩) 3 3] w fun z w' => ∃ nv av, z = .returned (.agg #[nv, av]) ∧ Numss w' nv (nxtK lwL 4) ∧ Nums w' av (accK lwL 4) ∧ Below w.heap.size w w' := by
  have G1 := hid (fun u => parseGoodF [97] lwA u (by decide) lwA_reads (by decide))
  have G2 := hid (fun u => parseGoodF [97, 98] lwB u (by decide) lwB_reads (by decide))
  have G3 := hid (fun u => parseGoodF [98, 43] lwC u (by decide) lwC_reads (by decide))
  have GB := hid (fun v u h (ht : Tab u) => buildGood v [lwA, lwB, lwC] u h (by decide) lwL_oks ht)
  have hans : Hid (∀ u nv av er, BldR [lwA, lwB, lwC] u nv av er → er = 0 ∧ Numss u nv (nxtK lwL 4) ∧ Nums u av (accK lwL 4)) := hid (fun u nv av er h => by
    obtain ⟨all, hAll, h⟩ := h
    have e := hAll.uniq lwL_all
    subst e
    rcases h with ⟨h1, n, h2, h3, h4⟩ | ⟨_, _, _, h2⟩
    · have e := h2.uniq lwL_to
      subst e
      exact ⟨h1, h3, h4⟩
    · exact absurd h2 lwL_to.not_full)
  have hnl : Hid ((nxtK lwL 4).length = 4) := hid (nxtK_len _ _)
  have hal : Hid ((accK lwL 4).length = 4) := hid (accK_len _ _)
  have hT' := hid hT
  obtain ⟨iC, hiC, zC0, zC1, zC2⟩ := info_parts Tryz.infoCs
  generalize nxtK lwL 4 = N at *
  generalize accK lwL 4 = A at *
  obtain ⟨W0, hW0⟩ : ∃ W0, w.alloc (.cells #[.slice none 0 0, .slice none 0 0] 25) = W0 := ⟨_, rfl⟩
  have hb0 : Hid (Below w.heap.size w W0) := by rw [← hW0]; exact hid (al' w _)
  have hz0 : Hid (W0.heap[w.heap.size]? = some (.cells #[.slice none 0 0, .slice none 0 0] 25)) := by rw [← hW0]; exact hid (heap_new w _)
  have hg' := hid hg
  clear hT hg
  go_enter Tryz.func19, Tryz.ntmps19
  go_wp2
  clear hW0
  go_loopw [3, 13] (fun v i wr => ∃ k : Nat, k ≤ 3 ∧ i = .int .i64 k ∧ Hid (∃ vs, wr.ownsRow W0.heap.size 48 1 v vs.length vs ∧ CelF (fun j => v.ownBlock = some j) wr vs (exT k)) ∧ Hid (Below W0.heap.size W0 wr)) (fun _ i _ => 3 - (intOf i).toNat)
  case atStart => exact ⟨0, by omega, rfl, hid ⟨[], World.ownsRow_nil _ _ _ _, CelF.nil _ _⟩, hid (Below.refl _ _)⟩
  case round =>
    obtain ⟨k, hk, rfl, hOx, hbl⟩ := hrel
    obtain ⟨vs, hO, hC⟩ := hOx.out
    have hO := hid hO
    have hC := hid hC
    clear hOx
    have hvl : vs.length ≤ 3 := by
      rw [hC.out.1]
      unfold exT
      rw [List.length_take]
      omega
    obtain ⟨va, vc, rfl⟩ := own_shape hO.out
    have hbw : Hid (Below w.heap.size w wr) := hid (bl_step hb0.out hbl.out)
    obtain ⟨⟨s0, -⟩, ⟨s1, -⟩, ⟨s2, -⟩⟩ := cells3m (hs_keep hg'.out hbw.out)
    have hown : Hid (∀ j, (Value.slice va vs.length vc).ownBlock = some j → W0.heap.size ≤ j ∧ j < wr.heap.size) := hid (fun j e => hO.out.lt j e)
    have hstep : Hid (∀ (t : Rx) (x : Value) (u w' : World) (o : Obj) (g3 c3 : Nat), exT (k + 1) = exT k ++ [post t] → Below wr.heap.size wr u → Cels u x (post t) → Off (fun j => j < wr.heap.size) x → w'.ownsRow W0.heap.size 48 1 (.slice (some ⟨g3, 0, none⟩) (vs.length + 1) c3) (vs.length + 1) (vs ++ [x]) → (u.alloc o).grownBy w' (Value.slice va vs.length vc).ownBlock → ((Value.slice va vs.length vc).ownBlock = some g3 ∨ g3 = (u.alloc o).heap.size) → (∃ vs', w'.ownsRow W0.heap.size 48 1 (.slice (some ⟨g3, 0, none⟩) (vs.length + 1) c3) vs'.length vs' ∧ CelF (fun j => (Value.slice (some ⟨g3, 0, none⟩) (vs.length + 1) c3).ownBlock = some j) w' vs' (exT (k + 1))) ∧ Below W0.heap.size W0 w') := hid (fun t x u w' o g3 c3 he hu hx hxb ho hgr hat => by
      have hu2 := bl_step hu (al' u o)
      refine ⟨⟨vs ++ [x], by rw [List.length_append]; exact ho, ?_⟩, (bl_step hbl.out hu2).trans ((Kept.of_grown hgr).below (fun j e => (hown.out j e).1) (bl_step hbl.out hu2).size)⟩
      rw [he]
      have hC2 : CelF (fun j => (Value.slice va vs.length vc).ownBlock = some j) (u.alloc o) vs (exT k) := ⟨hC.out.1, fun j => ⟨(hC.out.2 j).1.keep hu2, (hC.out.2 j).2⟩⟩
      refine hC2.snoc (hx.keep (al' u o)) (fun ad n c e h0 hf => hxb ad n c e h0 (hown.out _ hf).2) hgr (fun j e => e) (fun j e => ?_)
      have e1 : g3 = j := by injection e
      subst e1
      rcases hat with h1 | h1
      · exact Or.inl h1
      · exact Or.inr (by omega))
    have hszo : Hid (∀ u, Below wr.heap.size wr u → ∀ o, W0.heap.size ≤ (u.alloc o).heap.size) := hid (fun u hu o => (bl_step hbl.out (bl_step hu (al' u o))).size)
    have hOk : Hid (∀ u, Below wr.heap.size wr u → ∀ o, (u.alloc o).ownsRow W0.heap.size 48 1 (.slice va vs.length vc) vs.length vs) := hid (fun u hu o => own_below hO.out (bl_step hu (al' u o)))
    have hp1 : (post lwA).length = 1 := rfl
    have hp2 : (post lwB).length = 3 := rfl
    have hp3 : (post lwC).length = 2 := rfl
    rcases (show k = 0 ∨ k = 1 ∨ k = 2 ∨ k = 3 by omega) with rfl | rfl | rfl | rfl
    · have hex : Hid (exT (0 + 1) = exT 0 ++ [post lwA]) := hid rfl
      go_wp2_with (first
        | (at_builtin; refine wpList_append_lies _ (by rfl) _ _ _ (by rfl) W0.heap.size 48 iC (.slice none 0 0) 1 24 Tryz.underlying47 hiC zC0 zC1 zC2 rfl (by decide) (.slice va vs.length vc) vs.length vs (by rfl) (hOk.out w2 hb2.out _) ⟨w2.heap.size, 0, none⟩ 1 1 [.slice xa 1 xc] (by rfl) (by rfl) (World.news_of_block (heap_new w2 (.cells #[.slice xa 1 xc] 48))) (by simp [Value.oneCell']) (by omega) (by (unfold maxLen); omega) (by omega) (hszo.out w2 hb2.out _) (w2.alloc (.cells #[.slice xa 1 xc] 48)).heap.size rfl ?_; intro g3 c3 w3 hown3 hgrow3 hat3 hlt3; have hfin := hid (hstep.out lwA _ w2 w3 _ g3 c3 hex.out hb2.out hc2.out.1 hc2.out.2 hown3 hgrow3 hat3))
        | (go_at_call 33; refine (G1.out wr).mono ?_; rintro e w2 ⟨x, rfl, hc2, hb2⟩; obtain ⟨xa, xc, rfl⟩ := hc2.1.shape; have hb2 := hid hb2; have hc2 := hid hc2))
      go_roundw
      case rel => exact ⟨1, by omega, by first | rfl | go_num, hid hfin.out.1, hid hfin.out.2⟩
      case measure => simp [intOf]
    · have hex : Hid (exT (1 + 1) = exT 1 ++ [post lwB]) := hid rfl
      go_wp2_with (first
        | (at_builtin; refine wpList_append_lies _ (by rfl) _ _ _ (by rfl) W0.heap.size 48 iC (.slice none 0 0) 1 24 Tryz.underlying47 hiC zC0 zC1 zC2 rfl (by decide) (.slice va vs.length vc) vs.length vs (by rfl) (hOk.out w2 hb2.out _) ⟨w2.heap.size, 0, none⟩ 1 1 [.slice xa 3 xc] (by rfl) (by rfl) (World.news_of_block (heap_new w2 (.cells #[.slice xa 3 xc] 48))) (by simp [Value.oneCell']) (by omega) (by (unfold maxLen); omega) (by omega) (hszo.out w2 hb2.out _) (w2.alloc (.cells #[.slice xa 3 xc] 48)).heap.size rfl ?_; intro g3 c3 w3 hown3 hgrow3 hat3 hlt3; have hfin := hid (hstep.out lwB _ w2 w3 _ g3 c3 hex.out hb2.out hc2.out.1 hc2.out.2 hown3 hgrow3 hat3))
        | (go_at_call 33; refine (G2.out wr).mono ?_; rintro e w2 ⟨x, rfl, hc2, hb2⟩; obtain ⟨xa, xc, rfl⟩ := hc2.1.shape; have hb2 := hid hb2; have hc2 := hid hc2))
      go_roundw
      case rel => exact ⟨2, by omega, by first | rfl | go_num, hid hfin.out.1, hid hfin.out.2⟩
      case measure => simp [intOf]
    · have hex : Hid (exT (2 + 1) = exT 2 ++ [post lwC]) := hid rfl
      go_wp2_with (first
        | (at_builtin; refine wpList_append_lies _ (by rfl) _ _ _ (by rfl) W0.heap.size 48 iC (.slice none 0 0) 1 24 Tryz.underlying47 hiC zC0 zC1 zC2 rfl (by decide) (.slice va vs.length vc) vs.length vs (by rfl) (hOk.out w2 hb2.out _) ⟨w2.heap.size, 0, none⟩ 1 1 [.slice xa 2 xc] (by rfl) (by rfl) (World.news_of_block (heap_new w2 (.cells #[.slice xa 2 xc] 48))) (by simp [Value.oneCell']) (by omega) (by (unfold maxLen); omega) (by omega) (hszo.out w2 hb2.out _) (w2.alloc (.cells #[.slice xa 2 xc] 48)).heap.size rfl ?_; intro g3 c3 w3 hown3 hgrow3 hat3 hlt3; have hfin := hid (hstep.out lwC _ w2 w3 _ g3 c3 hex.out hb2.out hc2.out.1 hc2.out.2 hown3 hgrow3 hat3))
        | (go_at_call 33; refine (G3.out wr).mono ?_; rintro e w2 ⟨x, rfl, hc2, hb2⟩; obtain ⟨xa, xc, rfl⟩ := hc2.1.shape; have hb2 := hid hb2; have hc2 := hid hc2))
      go_roundw
      case rel => exact ⟨3, by omega, by first | rfl | go_num, hid hfin.out.1, hid hfin.out.2⟩
      case measure => simp [intOf]
    · have hC2 : Hid (Celss wr (.slice va vs.length vc) [post lwA, post lwB, post lwC]) := hid (celss_of hO.out hC.out)
      have hzr : Hid (wr.heap[w.heap.size]? = some (.cells #[.slice none 0 0, .slice none 0 0] 25)) := hid (hs_keep hz0.out hbl.out)
      have hvs2 : Hid (vs.length = 3) := hid hC.out.1
      go_wp2_with (go_at_call 17; refine (GB.out _ wr hC2.out (hT'.out.keep hbw.out)).mono ?_; rintro e w3 ⟨nv, av, er, rfl, hR, hb3⟩; obtain ⟨rfl, hN, hA⟩ := hans.out _ _ _ _ hR; obtain ⟨na, nc, rfl⟩ : (∃ a c, nv = .slice a 4 c) := (by obtain ⟨a, c, e0, _⟩ := hN; rw [hnl.out] at e0; exact ⟨a, c, e0⟩); obtain ⟨aa, ac, rfl⟩ : (∃ a c, av = .slice a 4 c) := (by obtain ⟨a, c, e0, _⟩ := hA; rw [hal.out] at e0; exact ⟨a, c, e0⟩); have hN := hid hN; have hA := hid hA; have hb3 := hid hb3; have hal3 := hid (al' w3 (.cells #[.slice na 4 nc, .slice aa 4 ac] 25)); have hbk := hid (heap_new w3 (.cells #[.slice na 4 nc, .slice aa 4 ac] 25)); obtain ⟨q0, q1, -⟩ := cells2m hbk.out; have hz4 := hid (hs_keep (hs_keep hzr.out hb3.out) hal3.out); obtain ⟨x0, x1, y0, y1⟩ := cells2m hz4.out)
      have hfb : ((((w3.alloc (.cells #[.slice na 4 nc, .slice aa 4 ac] 25)).setCell ⟨w.heap.size, 0, none⟩ (.slice na 4 nc)).setCell ⟨w.heap.size, 1, none⟩ (.slice aa 4 ac))).heap[w.heap.size]? = some (.cells #[.slice na 4 nc, .slice aa 4 ac] 25 (0, 0)) := heap_setCell (heap_setCell hz4.out)
      obtain ⟨r0, r1, -⟩ := cells2m hfb
      have hkf : Kept (oneBlk w.heap.size) (w3.alloc (.cells #[.slice na 4 nc, .slice aa 4 ac] 25)) (((w3.alloc (.cells #[.slice na 4 nc, .slice aa 4 ac] 25)).setCell ⟨w.heap.size, 0, none⟩ (.slice na 4 nc)).setCell ⟨w.heap.size, 1, none⟩ (.slice aa 4 ac)) := ((Kept.refl (oneBlk w.heap.size) _).setCell (a := ⟨w.heap.size, 0, none⟩) (v := .slice na 4 nc) (fun _ => rfl)).setCell (a := ⟨w.heap.size, 1, none⟩) (v := .slice aa 4 ac) (fun _ => rfl)
      have hNf := numss_setT (hN.out.keep hal3.out) (by rw [hnl.out]; omega) hz4.out (fun _ _ e => by cases e) (fun _ _ e => by cases e) hkf
      have hAf := (hA.out.keep hal3.out).kept hkf (nums_offT (hA.out.keep hal3.out) hz4.out (fun _ _ e => by cases e) (fun _ _ e => by cases e))
      exact bodyPost_ret (v := .agg #[.slice na 4 nc, .slice aa 4 ac]) (by simp [results, Tryz.results19, go_sem, r0, r1]) rfl ⟨_, _, rfl, hNf, hAf, bl_set (bl_set (bl_step (bl_step hbw.out hb3.out) hal3.out) _ _ _ (Nat.le_refl _)) _ _ _ (Nat.le_refl _)⟩


set_option maxRecDepth 20000 in
set_option maxHeartbeats 4000000 in
theorem wakes10 (w : World) (hT : Tab w) :
    Calls Tryz.prog 7 #[] w fun e w' => e = .returned (.bool true) ∧ Below w.heap.size w w' := by
  obtain ⟨W0, hW0⟩ : ∃ x, w.alloc (.cells #[.string ⟨#[97]⟩, .string ⟨#[97, 98]⟩, .string ⟨#[98, 43]⟩] 9) = x := ⟨_, rfl⟩
  have hb0 : Hid (Below w.heap.size w W0) := by rw [← hW0]; exact hid (al' w _)
  have hz0 : Hid (W0.heap[w.heap.size]? = some (.cells #[.string ⟨#[97]⟩, .string ⟨#[97, 98]⟩, .string ⟨#[98, 43]⟩] 9)) := by rw [← hW0]; exact hid (heap_new w _)
  have GB := hid (builtEx10 w.heap.size W0 (hT.keep hb0.out) hz0.out)
  have GA : Hid (∀ nv av u, Numss u nv (nxtK lwL 4) → Nums u av (accK lwL 4) → Calls Tryz.prog 11 #[.agg #[nv, av], .string ⟨#[97, 98, 98, 97]⟩] u fun e w' => ∃ tv, e = .returned (.tuple #[tv, .int .i64 (-1)]) ∧ OwnK w' u.heap.size tv [(1, 0, 2), (2, 2, 1), (0, 3, 1)] ∧ Below u.heap.size u w') := hid (fun nv av u hN hA => by
    have h := lexAllC nv av (nxtK lwL 4) (accK lwL 4) [97, 98, 98, 97] u ⟨hN, hA⟩ (by rw [lwN_len]; omega) (by decide)
    rw [lexCutB_good (rgtB_of lwL_right), lw_cut.1, lw_cut.2] at h
    exact h)
  have GS : Hid (∀ tv u B, OwnK u B tv [(1, 0, 2), (2, 2, 1), (0, 3, 1)] → Calls Tryz.prog 13 #[tv, .slice (some ⟨u.heap.size, 0, none⟩) 3 3] (u.alloc (.cells #[.int .i64 1, .int .i64 0, .int .i64 2, .int .i64 2, .int .i64 2, .int .i64 1, .int .i64 0, .int .i64 3, .int .i64 1] 28)) fun e w' => e = .returned (.bool true) ∧ Below u.heap.size u w') := hid (fun tv u B h => by
    have hl := World.ownsRow_lit u (e := 28) (size := 3) #[.int .i64 1, .int .i64 0, .int .i64 2, .int .i64 2, .int .i64 2, .int .i64 1, .int .i64 0, .int .i64 3, .int .i64 1] 3 (Nat.le_refl _) (by decide) rfl
    have hs := tkSame tv _ B u.heap.size [(1, 0, 2), (2, 2, 1), (0, 3, 1)] [(1, 0, 2), (2, 2, 1), (0, 3, 1)] _ (own_below h (al' u _)) hl (by decide) (by decide)
    refine hs.mono ?_
    rintro e w' ⟨rfl, hb⟩
    exact ⟨by rw [decide_eq_true rfl], bl_step (al' u _) hb⟩)
  clear hT
  go_enter Tryz.func7, Tryz.ntmps7
  go_wp2_with (first
    | (go_at_call 19; refine GB.out.mono ?_; clear GB; rintro e w1 ⟨nv, av, rfl, hN, hA, hb1⟩; have hN := hid hN; have hA := hid hA; have hb1 := hid hb1)
    | (go_at_call 11; refine (GA.out nv av w1 hN.out hA.out).mono ?_; clear GA; rintro e w2 ⟨tv, rfl, hO, hb2⟩; have hO := hid hO; have hb2 := hid hb2)
    | (go_at_call 13; refine (GS.out tv w2 _ hO.out).mono ?_; clear GS; rintro e w3 ⟨rfl, hb3⟩; have hb3 := hid hb3))
  go_ret
  exact ⟨rfl, bl_step (bl_step (bl_step hb0.out hb1.out) hb2.out) hb3.out⟩

end Go.Proofs.YtonlcnmlklaicaaGreatDoor
namespace Go.Proofs.YtonlcnmlklaicaaGreatDoor
open Go.ChangeShapes Go.WideShapes Go.ChangeAt Go.RowKit

set_option maxRecDepth 20000 in
theorem Tryz.cellsOf65 : Tryz.prog.cellsOf 65 = 4 := by kernel_rfl
set_option maxRecDepth 20000 in
theorem Tryz.cellsOf67 : Tryz.prog.cellsOf 67 = 5 := by kernel_rfl
set_option maxRecDepth 20000 in
theorem Tryz.cellsOf3 : Tryz.prog.cellsOf 3 = 1 := by kernel_rfl
theorem bound_u64 {n : Int} (h : (Lit.int .u64 n).wf = true) : 0 ≤ n ∧ n < 18446744073709551616 := by
  have h1 : IntKind.u64.min = 0 := by decide
  have h2 : IntKind.u64.max = 18446744073709551615 := by decide
  simp [Lit.wf] at h
  omega
theorem bound_i64 {n : Int} (h : (Lit.int .i64 n).wf = true) : -9223372036854775808 ≤ n ∧ n ≤ 9223372036854775807 := by
  have h1 : IntKind.i64.min = -9223372036854775808 := by decide
  have h2 : IntKind.i64.max = 9223372036854775807 := by decide
  simp [Lit.wf] at h
  omega
instance : Inhabited W4 := ⟨⟨0, 0, 0, 0⟩⟩
instance : Inhabited Cel := ⟨⟨0, ⟨0, 0, 0, 0⟩⟩⟩

set_option maxRecDepth 100000 in
theorem set_of_trod {H : Type} {enc : TypeId × Value → H} {W : World} {fuel : Nat} {cs : List Value} {x : DataW H × List MemPlace} (hf : DataW.trod enc Tryz.prog W 0 (fun _ => true) true fuel 65 cs = some x) :
    ∃ S : W4, Fit4 S ∧ cs = [.int .u64 (S.a : Int), .int .u64 (S.b : Int), .int .u64 (S.c : Int), .int .u64 (S.d : Int)] := by
  cases fuel with
  | zero => simp [DataW.trod] at hf
  | succ m =>
    rw [DataW.trod_step] at hf
    unfold DataW.trodStep at hf
    simp only [Tryz.underlying65, Tryz.cellsOf65, Tryz.cells63] at hf
    split at hf
    case isFalse => cases hf
    rename_i hlen
    simp only [Option.map_eq_some_iff] at hf
    obtain ⟨ys, hy, _⟩ := hf
    rw [show List.range 4 = [0, 1, 2, 3] from rfl] at hy
    simp only [List.mapM_cons, List.mapM_nil, bind, Option.bind_eq_some_iff, pure] at hy
    obtain ⟨y0, h0, z0, ⟨y1, h1, z1, ⟨y2, h2, z2, ⟨y3, h3, _⟩, _⟩, _⟩, _⟩ := hy
    obtain ⟨n0, e0, _, w0⟩ := DataW.trod_int Tryz.underlying63 h0
    obtain ⟨n1, e1, _, w1⟩ := DataW.trod_int Tryz.underlying63 h1
    obtain ⟨n2, e2, _, w2⟩ := DataW.trod_int Tryz.underlying63 h2
    obtain ⟨n3, e3, _, w3⟩ := DataW.trod_int Tryz.underlying63 h3
    match cs, hlen with
    | [c0, c1, c2, c3], _ =>
      simp at e0 e1 e2 e3
      subst e0 e1 e2 e3
      have b0 := bound_u64 w0
      have b1 := bound_u64 w1
      have b2 := bound_u64 w2
      have b3 := bound_u64 w3
      refine ⟨⟨n0.toNat, n1.toNat, n2.toNat, n3.toNat⟩, ⟨?_, ?_, ?_, ?_⟩, ?_⟩
      · simp only; omega
      · simp only; omega
      · simp only; omega
      · simp only; omega
      · simp only [Int.toNat_of_nonneg b0.1, Int.toNat_of_nonneg b1.1, Int.toNat_of_nonneg b2.1, Int.toNat_of_nonneg b3.1]

set_option maxRecDepth 100000 in
theorem cel_of_trod {H : Type} {enc : TypeId × Value → H} {W : World} {fuel : Nat} {cs : List Value} {x : DataW H × List MemPlace} (hl : cs.length = 5) (hf : DataW.trod enc Tryz.prog W 0 (fun _ => true) true fuel 67 cs = some x) :
    ∃ c : Cel, FitC c ∧ ∀ j, j < 5 → cs[j]? = some (cellV c j) := by
  obtain ⟨y0, y1, m, rfl, _, t0, t1⟩ := trod_struct2 Tryz.underlying67 hf
  obtain ⟨z, e0, _, wz⟩ := DataW.trod_int Tryz.underlying3 t0
  obtain ⟨S, hS, e1⟩ := set_of_trod t1
  have bz := bound_i64 wz
  match cs, hl with
  | [c0, c1, c2, c3, c4], _ =>
    simp [Tryz.cellsOf3, Tryz.cellsOf65] at e0 e1
    obtain ⟨r1, r2, r3, r4⟩ := e1
    subst e0 r1 r2 r3 r4
    refine ⟨⟨z, S⟩, ⟨bz.1, bz.2, hS⟩, fun j hj => ?_⟩
    have h5 : j = 0 ∨ j = 1 ∨ j = 2 ∨ j = 3 ∨ j = 4 := by omega
    rcases h5 with rfl | rfl | rfl | rfl | rfl <;> rfl

end Go.Proofs.YtonlcnmlklaicaaGreatDoor
namespace Go.Proofs.YtonlcnmlklaicaaGreatDoor
open Go.ChangeShapes Go.WideShapes Go.ChangeAt Go.RowKit

set_option maxRecDepth 20000 in
theorem Tryz.cellsOf23 : Tryz.prog.cellsOf 23 = 1 := by kernel_rfl
set_option maxRecDepth 20000 in
theorem Tryz.cellsOf22 : Tryz.prog.cellsOf 22 = 1 := by kernel_rfl
set_option maxRecDepth 20000 in
theorem nums_of_trod {H : Type} {enc : TypeId × Value → H} {W : World} {fuel : Nat} {cs : List Value} {x : DataW H × List MemPlace} (hf : DataW.trod enc Tryz.prog W 0 (fun _ => true) true fuel 23 cs = some x) :
    ∃ (l : List Int) (v : Value), cs = [v] ∧ Nums W v l ∧ l.length ≤ 9223372036854775807 := by
  rcases open_ints Tryz.underlying23 Tryz.underlying3 Tryz.cells3 hf with ⟨hcs, _⟩ | ⟨a, len, cap, zs, hcs, _, hl, hm, hz, _, hcells, hwf⟩
  · exact ⟨[], _, hcs, Nums.nil _, by simp⟩
  · have hz' : zs.length = cap := by simpa using hz
    have hlen : (zs.take len).length = len := by rw [List.length_take]; omega
    unfold maxLen at hm
    refine ⟨zs.take len, _, hcs, ⟨some a, cap, by rw [hlen], by omega, fun h => (by cases h), fun j hj => ?_⟩, by omega⟩
    have hj' : j < zs.length := by omega
    obtain ⟨b, off, rfl⟩ : ∃ b o, a = ⟨b, o, none⟩ := by
      have h0 := hcells 0 (by omega)
      obtain ⟨b, off, spot⟩ := a
      have hspot : spot = none := by simpa [Addr.add] using World.cell?_spot h0
      exact ⟨b, off, by rw [hspot]⟩
    have hc := hcells j hj'
    rw [Go.WideShapes.add_plain] at hc
    refine ⟨b, off, rfl, World.block_lt_of_cell? _ _ hc, ?_⟩
    rw [hc, List.getD_eq_getElem?_getD, List.getElem?_eq_getElem hj', List.getElem_take]; rfl
set_option maxRecDepth 20000 in
theorem lists_of_trod {H : Type} {enc : TypeId × Value → H} {W : World} {fuel : Nat} {cs : List Value} {x : DataW H × List MemPlace} (hf : DataW.trod enc Tryz.prog W 0 (fun _ => true) true fuel 22 cs = some x) :
    ∃ (ls : List (List Int)) (v : Value), cs = [v] ∧ Numss W v ls ∧ ls.length ≤ 9223372036854775807 ∧ ∀ l ∈ ls, l.length ≤ 9223372036854775807 := by
  rcases Deep.open_slice Tryz.underlying22 hf with ⟨hcs, _⟩ | ⟨a, len, cap, m, n, D, Pl, hcs, _, hl, hm, hmm, _, hx⟩
  · exact ⟨[], _, hcs, ⟨none, 0, rfl, Nat.le_refl _, fun _ => rfl, fun j hj => absurd hj (Nat.not_lt_zero _)⟩, by simp, fun l hl => absurd hl (List.not_mem_nil)⟩
  · have hm' : m = cap := by simpa using hmm
    have hone : ∀ i, i < len → ∃ e : Value × List Int, W.cell? (a.add i) = some e.1 ∧ Nums W e.1 e.2 ∧ e.2.length ≤ 9223372036854775807 := by
      intro i hi
      obtain ⟨cs', hc, ht⟩ := hx i (by omega)
      rw [Tryz.cellsOf23, Nat.mul_one] at hc
      obtain ⟨l, v, rfl, h1, h2⟩ := nums_of_trod ht
      refine ⟨(v, l), ?_, h1, h2⟩
      have hh := (World.cells?_some hc).2.2 0 (by omega)
      simpa [Addr.add] using hh
    obtain ⟨E, hE⟩ := Deep.choose_lt hone
    unfold maxLen at hm
    refine ⟨(List.range len).map (fun i => (E i).2), _, by rw [hcs], ⟨some a, cap, by simp, by simp; omega, fun h => (by cases h), fun j hj => ?_⟩, by simp; omega, fun l hl => ?_⟩
    · have hj' : j < len := by simpa using hj
      obtain ⟨b, off, rfl⟩ : ∃ b o, a = ⟨b, o, none⟩ := by
        have h0 := (hE 0 (by omega)).1
        obtain ⟨b, off, spot⟩ := a
        have hspot : spot = none := by simpa [Addr.add] using World.cell?_spot h0
        exact ⟨b, off, by rw [hspot]⟩
      have hc := (hE j hj').1
      rw [Go.WideShapes.add_plain] at hc
      refine ⟨b, off, (E j).1, rfl, World.block_lt_of_cell? _ _ hc, hc, ?_⟩
      simp only [List.getElem_map, List.getElem_range]
      exact (hE j hj').2.1
    · rw [List.mem_map] at hl
      obtain ⟨i, hi, rfl⟩ := hl
      rw [List.mem_range] at hi
      exact (hE i hi).2.2

set_option maxRecDepth 20000 in
theorem Tryz.cellsOf48 : Tryz.prog.cellsOf 48 = 1 := by kernel_rfl
set_option maxRecDepth 20000 in
theorem Tryz.cellsOf25 : Tryz.prog.cellsOf 25 = 2 := by kernel_rfl
set_option maxRecDepth 20000 in
theorem cels_of_trod {H : Type} {enc : TypeId × Value → H} {W : World} {fuel : Nat} {cs : List Value} {x : DataW H × List MemPlace} (hf : DataW.trod enc Tryz.prog W 0 (fun _ => true) true fuel 48 cs = some x) :
    ∃ (l : List Cel) (v : Value), cs = [v] ∧ Cels W v l := by
  rcases Deep.open_slice Tryz.underlying48 hf with ⟨hcs, _⟩ | ⟨a, len, cap, m, n, D, Pl, hcs, _, hl, hm, hmm, _, hx⟩
  · exact ⟨[], _, hcs, ⟨none, 0, rfl, Nat.le_refl _, fun _ => rfl, fun S hS => absurd hS (List.not_mem_nil), fun j hj => absurd hj (Nat.not_lt_zero _)⟩⟩
  · have hm' : m = cap := by simpa using hmm
    have hone : ∀ i, i < len → ∃ c : Cel, FitC c ∧ ∀ j, j < 5 → W.cell? ((a.add (i * 5)).add j) = some (cellV c j) := by
      intro i hi
      obtain ⟨cs', hc, ht⟩ := hx i (by omega)
      rw [Tryz.cellsOf67] at hc
      have hcl := (World.cells?_some hc).2.1
      obtain ⟨c, hF, hcc⟩ := cel_of_trod hcl ht
      refine ⟨c, hF, fun j hj => ?_⟩
      rw [(World.cells?_some hc).2.2 j hj]
      exact hcc j hj
    obtain ⟨E, hE⟩ := Deep.choose_lt hone
    unfold maxLen at hm
    refine ⟨(List.range len).map E, _, by rw [hcs], ⟨some a, cap, by simp, by simp; omega, fun h => (by cases h), fun c hc => ?_, fun j hj => ?_⟩⟩
    · rw [List.mem_map] at hc
      obtain ⟨i, hi, rfl⟩ := hc
      rw [List.mem_range] at hi
      exact (hE i hi).1
    · have hj' : j < len := by simpa using hj
      obtain ⟨b, off, rfl⟩ : ∃ b o, a = ⟨b, o, none⟩ := by
        have h0 := (hE 0 (by omega)).2 0 (by omega)
        obtain ⟨b, off, spot⟩ := a
        have hspot : spot = none := by simpa [Addr.add] using World.cell?_spot h0
        exact ⟨b, off, by rw [hspot]⟩
      have hc := (hE j hj').2
      simp only [Go.WideShapes.add_plain] at hc
      refine ⟨b, off, rfl, World.block_lt_of_cell? _ _ (hc 0 (by omega)), ?_⟩
      simp only [List.getElem_map, List.getElem_range]
      exact at5_of hc
set_option maxRecDepth 20000 in
theorem open_rules {H : Type} {enc : TypeId × Value → H} {W : World} {v : Value} {d : DataW H} {p : List MemPlace} {base : Nat} (hv : Value.okWide Tryz.prog W .any base 47 v)
    (h : DataW.Trod enc Tryz.prog W 0 (fun _ => true) true 47 v d p) : ∃ L : List (List Cel), Celss W v L ∧ (L = [] ∨ ∃ elems spare, d = .slice elems spare ∧ elems.length = L.length) := by
  obtain ⟨ao, len0, cap0, rfl⟩ := okWide_slice Tryz.underlying47 hv
  obtain ⟨fuel, hf⟩ := h
  rcases Deep.open_slice Tryz.underlying47 hf with ⟨hcs, _⟩ | ⟨a, len, cap, m, n, D, Pl, hcs, _, hl, hm, hmm, hxd, hx⟩
  · simp [Value.cells] at hcs
    obtain ⟨rfl, rfl, rfl⟩ := hcs
    exact ⟨[], ⟨none, 0, rfl, Nat.le_refl _, fun _ => rfl, fun j hj => absurd hj (Nat.not_lt_zero _)⟩, Or.inl rfl⟩
  · simp [Value.cells] at hcs
    obtain ⟨rfl, rfl, rfl⟩ := hcs
    have hm' : m = cap0 := by simpa using hmm
    have hone : ∀ i, i < len0 → ∃ e : Value × List Cel, W.cell? (a.add i) = some e.1 ∧ Cels W e.1 e.2 := by
      intro i hi
      obtain ⟨cs', hc, ht⟩ := hx i (by omega)
      rw [Tryz.cellsOf48, Nat.mul_one] at hc
      obtain ⟨l, v, rfl, h1⟩ := cels_of_trod ht
      refine ⟨(v, l), ?_, h1⟩
      have hh := (World.cells?_some hc).2.2 0 (by omega)
      simpa [Addr.add] using hh
    obtain ⟨E, hE⟩ := Deep.choose_lt hone
    refine ⟨(List.range len0).map (fun i => (E i).2), ⟨some a, cap0, by simp, by simp; omega, fun h => (by cases h), fun j hj => ?_⟩, Or.inr ⟨_, _, congrArg Prod.fst hxd, by simp⟩⟩
    have hj' : j < len0 := by simpa using hj
    obtain ⟨b, off, rfl⟩ : ∃ b o, a = ⟨b, o, none⟩ := by
      have h0 := (hE 0 (by omega)).1
      obtain ⟨b, off, spot⟩ := a
      have hspot : spot = none := by simpa [Addr.add] using World.cell?_spot h0
      exact ⟨b, off, by rw [hspot]⟩
    have hc := (hE j hj').1
    rw [Go.WideShapes.add_plain] at hc
    refine ⟨b, off, (E j).1, rfl, World.block_lt_of_cell? _ _ hc, hc, ?_⟩
    simp only [List.getElem_map, List.getElem_range]
    exact (hE j hj').2
set_option maxRecDepth 20000 in
theorem Tryz.bytes48 : Tryz.prog.bytesOf 48 = 24 := by kernel_rfl
set_option maxRecDepth 20000 in
theorem reach_rules {H : Type} {ds : List (DataW H)} {d : DataW H} {l : List (List Cel)} {ts : List TypeId} (hsz : (DataW.weightsEach Tryz.prog ts ds).all (· ≤ reachBytes) = true) (ht : ts[0]? = some 47) (hd : ds[0]? = some d) (h : l = [] ∨ ∃ elems spare, d = .slice elems spare ∧ elems.length = l.length) : l.length * 24 ≤ 140737488351232 := by
  rcases h with rfl | ⟨elems, spare, rfl, he⟩
  · simp
  · have := sized_slice hsz (j := 0) ht hd Tryz.underlying47
    rw [Tryz.bytes48] at this
    simp only [reachBytes] at this
    omega


end Go.Proofs.YtonlcnmlklaicaaGreatDoor
