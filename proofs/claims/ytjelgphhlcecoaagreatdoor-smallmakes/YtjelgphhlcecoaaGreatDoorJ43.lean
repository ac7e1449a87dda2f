/- wakes. regex.Parse once more: its cells lie in memory of its own. topiarylaw09.built, of the example's texts. -/
import Derived.Test.YtjelgphhlcecoaaGreatDoorJ42
import Derived.Test.YtjelgphhlcecoaaGreatDoorJ32
import Derived.Test.YtjelgphhlcecoaaGreatDoorJ31
import Derived.Test.YtjelgphhlcecoaaGreatDoorJ20
import Derived.Test.YtjelgphhlcecoaaGreatDoorJ33
import Derived.Test.YtjelgphhlcecoaaGreatDoorJ34
import Derived.Defers
import Derived.Recover
namespace Go.Proofs.YtjelgphhlcecoaaGreatDoor
open Go.RowKit

theorem celss_two (w : World) (v1 v2 : Value) (l1 l2 : List Cel) (h1 : Cels w v1 l1) (h2 : Cels w v2 l2) : Celss (w.alloc (.cells #[v1, v2] 63)) (.slice (some ⟨w.heap.size, 0, none⟩) 2 2) [l1, l2] := by
  have hb := heap_new w (.cells #[v1, v2] 63)
  have hal := al' w (.cells #[v1, v2] 63)
  refine ⟨_, 2, rfl, Nat.le_refl _, fun h => (by cases h), fun j hj => ?_⟩
  have h2' : j < 2 := hj
  match j, h2' with
  | 0, _ => exact ⟨w.heap.size, 0, v1, rfl, blk_lt hb, blk_cell hb rfl, h1.keep hal⟩
  | 1, _ => exact ⟨w.heap.size, 0, v2, rfl, blk_lt hb, blk_cell hb rfl, h2.keep hal⟩
theorem wk_oks : ∀ t ∈ [wkAB, wkA], t.ok ∧ (post t).length ≤ 60 := by
  intro t ht
  refine ⟨?_, wk_60 t ht⟩
  rcases List.mem_cons.1 ht with rfl | ht
  · exact wkAB_ok
  · rcases List.mem_cons.1 ht with rfl | ht
    · exact wkA_ok
    · cases ht
end Go.Proofs.YtjelgphhlcecoaaGreatDoor
namespace Go.Proofs.YtjelgphhlcecoaaGreatDoor
open Go.RowKit

set_option maxRecDepth 20000 in
set_option maxHeartbeats 2000000 in
theorem readOkF (s : Txt) (t : Rx) (w : World) (hs : s.length ≤ 200) (hr : rowsP s = some (t, [])) :
    Calls Tryz.prog 39 #[.string (strT s)] w fun e w' => ∃ v, e = .returned (.tuple #[v, .int .i64 0, .int .i64 0]) ∧ (Cels w' v (post t) ∧ Off (fun k => k < w.heap.size) v) ∧ Below w.heap.size w w' := by
  have hmf : ∀ (fn : Fn) (first cap : Array Value) (w : World), (Instr.makeFunc fn first cap).run Tryz.prog w = .ok (.func fn first cap) w := fun _ _ _ _ => rfl
  have G := rowsC (M := 400) (readW_rd w s) hs (by simp; omega) (by omega)
  rw [hr] at G
  have G := hid G
  obtain ⟨h0, h1, h2, h3⟩ := four_blocks w (.cells #[.slice none 0 0] 63) (.cells #[.int .i64 0] 3) (.cells #[.int .i64 0] 28) (.cells #[.string (strT s), .int .i64 0, .slice none 0 0] 89)
  have hsz : (readW w s).heap.size = w.heap.size + 4 := by simp [readW]
  have hpl : plc s [] = (s.length : Int) := by simp [plc]
  have hS := strT_size s
  have HE : Hid (∀ w1, Red (some (t, [])) (readW w s) (w.heap.size + 3) s [] 400 (.returned (.tuple #[])) w1 → ∃ ad cap, (w1.cell? ⟨w.heap.size + 3, 1, none⟩ = some (.int .i64 (s.length : Int)) ∧ w1.cell? ⟨w.heap.size + 3, 2, none⟩ = some (.slice ad (post t).length cap) ∧ w1.heap[w.heap.size]? = some (.cells #[.slice none 0 0] 63 (0, 0)) ∧ w1.heap[w.heap.size + 1]? = some (.cells #[.int .i64 0] 3 (0, 0)) ∧ w1.heap[w.heap.size + 2]? = some (.cells #[.int .i64 0] 28 (0, 0))) ∧ (∀ c ∈ post t, FitC c) ∧ OwnC w1 (w.heap.size + 3) (.slice ad (post t).length cap) (post t) ∧ Below w.heap.size w w1) := hid (fun w1 hw => by
    obtain ⟨-, hrd, -, hb⟩ := hw.yes
    have hp := hrd.place
    rw [hpl] at hp
    obtain ⟨v, hat, ho, hf⟩ := hrd
    obtain ⟨k, hbk⟩ := hat.blk
    have hC := Cels.of_own (l := post t) ho hf
    obtain ⟨ad, cap, rfl⟩ : ∃ ad cap, v = .slice ad (post t).length cap := by obtain ⟨a, c, e, _⟩ := hC; exact ⟨a, c, e⟩
    refine ⟨ad, cap, ⟨hp, (rd3 hbk).2.2.1, (hb.block _ (by omega)).trans h0, (hb.block _ (by omega)).trans h1, (hb.block _ (by omega)).trans h2⟩, hf, ho, ?_⟩
    exact (readW_below w s).trans (hb.mono (by omega)))
  unfold readW at G HE
  generalize strT s = S at G HE hS
  clear h0 h1 h2 h3 hsz hpl hr
  go_enter_defers Tryz.func39, Tryz.ntmps39
  go_wp2_with (go_at_call 47; refine G.out.mono ?_; intro e w1 hw1; obtain ⟨he1, -, -, -⟩ := hw1.yes; subst he1; obtain ⟨ad, cap, ⟨c1, c2, k0, k1, k2⟩, hC, hO, hb⟩ := HE.out w1 hw1; have hC := hid hC; have hO := hid hO; have d0 := blk_cell (o := 0) (v := .slice none 0 0) k0 rfl; have d1 := blk_cell (o := 0) (v := .int .i64 0) k1 rfl; have d2 := blk_cell (o := 0) (v := .int .i64 0) k2 rfl; have f0 := blk_frozen k0 0; have f1 := blk_frozen k1 0; have f2 := blk_frozen k2 0; clear k0 k1 k2)
  refine leaves_cons (f := 46) (args := #[.pointer (some ⟨w.heap.size, 0, none⟩), .pointer (some ⟨w.heap.size + 1, 0, none⟩), .pointer (some ⟨w.heap.size + 2, 0, none⟩)]) (by simp) (by simp [go_sem]) ?_
  refine (catch_idle _ _ _ _).mono ?_
  rintro e u' w'' ⟨rfl, rfl, rfl⟩
  have hO' : OwnC (((w1.setCell ⟨w.heap.size, 0, none⟩ (.slice ad (post t).length cap)).setCell ⟨w.heap.size + 1, 0, none⟩ (.int .i64 0)).setCell ⟨w.heap.size + 2, 0, none⟩ (.int .i64 0)) (w.heap.size + 3) (.slice ad (post t).length cap) (post t) := own_keep hO.out fun k hk => by
    have := (hO.out.lt k hk).1
    rw [Below.heap_setCell _ _ _ _ (by simp; omega), Below.heap_setCell _ _ _ _ (by simp; omega), Below.heap_setCell _ _ _ _ (by simp; omega)]
  refine ⟨.tuple #[.slice ad (post t).length cap, .int .i64 0, .int .i64 0], by simp [results, Tryz.results39, go_sem, d0, d1, d2], _, rfl, ⟨Cels.of_own (l := post t) hO' hC.out, off_row hO' (fun k hk => by omega)⟩, ?_⟩
  exact bl_set (bl_set (bl_set hb _ 0 _ (Nat.le_refl _)) _ 0 _ (by omega)) _ 0 _ (by omega)
set_option maxRecDepth 20000 in
theorem parseGoodF (s : Txt) (t : Rx) (w : World) (hs : s.length ≤ 200) (hr : rowsP s = some (t, [])) (hl : (post t).length ≤ 60) : Calls Tryz.prog 30 #[.string (strT s)] w fun e w' => ∃ v, e = .returned (.tuple #[v, .int .i64 0, .int .i64 0]) ∧ (Cels w' v (post t) ∧ Off (fun k => k < w.heap.size) v) ∧ Below w.heap.size w w' := by
  have G0 := readOkF s t w hs hr
  have hS := strT_size s
  have hz : ¬ (200 : Int) < ((strT s).size : Int) := by omega
  have hzz : (strT s).size ≤ 200 := by omega
  have G : Hid (Calls Tryz.prog 39 #[.string (strT s)] w fun e w' => ∃ a c, e = .returned (.tuple #[.slice a (post t).length c, .int .i64 0, .int .i64 0]) ∧ Hid (Cels w' (.slice a (post t).length c) (post t) ∧ Off (fun k => k < w.heap.size) (.slice a (post t).length c)) ∧ Below w.heap.size w w') := hid (G0.mono fun e w' ⟨v, he, hc, hb⟩ => by
    have hc' := hc
    obtain ⟨⟨a, c, hv, _⟩, _⟩ := hc
    subst hv
    exact ⟨a, c, he, hid hc', hb⟩)
  generalize strT s = S at hS hz G hzz
  have hlz : ¬ (60 : Int) < ((post t).length : Int) := by omega
  clear hr hS G0
  go_enter Tryz.func30, Tryz.ntmps30
  go_wp2_with (go_at_call 39; refine G.out.mono ?_; rintro e w1 ⟨a, c, rfl, hC, hb⟩)
  refine bodyPost_ret (v := .tuple #[.slice a (post t).length c, .int .i64 0, .int .i64 0]) (by simp [results, Tryz.results30, go_sem]) rfl ⟨_, rfl, hC.out, hb⟩

end Go.Proofs.YtjelgphhlcecoaaGreatDoor
namespace Go.Proofs.YtjelgphhlcecoaaGreatDoor
open Go.RowKit

/-- numbers do not lie in a block of two slices -/
theorem nums_off {w : World} {v x0 x1 : Value} {l : List Int} {rb : Nat} {T : TypeId} (h : Nums w v l) (hr : w.heap[rb]? = some (.cells #[x0, x1] T (0, 0))) (h0 : ∀ k n, x0 ≠ .int k n) (h1 : ∀ k n, x1 ≠ .int k n) : Off (oneBlk rb) v := fun ad n c e hn hf => by
  obtain ⟨a, cap, e2, hc, hz, hat⟩ := h
  rw [e] at e2
  injection e2 with e3 e4 e5
  subst e4
  obtain ⟨b, o, e6, hlt, hcell⟩ := hat 0 hn
  rw [← e3] at e6
  injection e6 with e6
  subst e6
  have hb : b = rb := hf
  subst hb
  have hb2 : w.cell? ⟨b, o + 0, none⟩ = #[x0, x1][o]? := by simp [World.cell?, hr]
  rw [hb2] at hcell
  match o, hcell with
  | 0, hcell => injection hcell with hcell; exact h0 _ _ hcell
  | 1, hcell => injection hcell with hcell; exact h1 _ _ hcell
  | o + 2, hcell => simp at hcell
theorem numss_set {w w' : World} {v x0 x1 : Value} {N : List (List Int)} {rb : Nat} {T : TypeId} (h : Numss w v N) (hl : 2 < N.length) (hr : w.heap[rb]? = some (.cells #[x0, x1] T (0, 0))) (h0 : ∀ k n, x0 ≠ .int k n) (h1 : ∀ k n, x1 ≠ .int k n) (hk : Kept (oneBlk rb) w w') : Numss w' v N := by
  obtain ⟨a, cap, rfl, hc, hz, hat⟩ := h
  refine ⟨a, cap, rfl, hc, hz, fun j hj => ?_⟩
  obtain ⟨b, o, x, rfl, hlt, h2, h3⟩ := hat j hj
  have hb : ¬ oneBlk rb b := fun e => by
    have e1 : b = rb := e
    subst e1
    obtain ⟨b', o', x', e', _, h4, _⟩ := hat 2 hl
    cases e'
    have hb2 : w.cell? ⟨b, o + 2, none⟩ = #[x0, x1][o + 2]? := by simp [World.cell?, hr]
    rw [hb2] at h4
    simp at h4
  exact ⟨b, o, x, rfl, Nat.lt_of_lt_of_le hlt hk.size, hk.cell h2 hlt hb, h3.kept hk (nums_off h3 hr h0 h1)⟩
/-- the first k rules of the example -/
def exL (k : Nat) : List (List Cel) := [post wkO, post wkC].take k
set_option maxRecDepth 20000 in
set_option maxHeartbeats 4000000 in
theorem builtEx (g : Nat) (w : World) (hT : Tab w) (hg : w.heap[g]? = some (.cells #[.string ⟨#[97, 124, 98]⟩, .string ⟨#[99]⟩] 9 (0, 0))) :
    Calls Tryz.prog 19 #[.slice (some ⟨g, 0, none⟩) 2 2] w fun z w' => ∃ nv av, z = .returned (.agg #[nv, av]) ∧ Numss w' nv (nxtK wkL 3) ∧ Nums w' av (accK wkL 3) ∧ Below w.heap.size w w' := by
  have G1 := hid (fun u => parseGoodF [97, 124, 98] wkO u (by decide) wkO_reads (by decide))
  have G2 := hid (fun u => parseGoodF [99] wkC u (by decide) wkC_reads (by decide))
  have GB := hid (fun v u h (ht : Tab u) => buildGood v [wkO, wkC] u h (by decide) wkL_oks ht)
  have hans : Hid (∀ u nv av er, BldR [wkO, wkC] u nv av er → er = 0 ∧ Numss u nv (nxtK wkL 3) ∧ Nums u av (accK wkL 3)) := hid (fun u nv av er h => by
    obtain ⟨all, hAll, h⟩ := h
    have e := hAll.uniq wkL_all
    subst e
    rcases h with ⟨h1, n, h2, h3, h4⟩ | ⟨_, _, _, h2⟩
    · have e := h2.uniq wkL_to
      subst e
      exact ⟨h1, h3, h4⟩
    · exact absurd h2 wkL_to.not_full)
  have hnl : Hid ((nxtK wkL 3).length = 3) := hid (nxtK_len _ _)
  have hal : Hid ((accK wkL 3).length = 3) := hid (accK_len _ _)
  have hT' := hid hT
  obtain ⟨iC, hiC, zC0, zC1, zC2⟩ := info_parts Tryz.infoCs
  generalize nxtK wkL 3 = N at *
  generalize accK wkL 3 = A at *
  obtain ⟨W0, hW0⟩ : ∃ W0, w.alloc (.cells #[.slice none 0 0, .slice none 0 0] 25) = W0 := ⟨_, rfl⟩
  have hb0 : Hid (Below w.heap.size w W0) := by rw [← hW0]; exact hid (al' w _)
  have hz0 : Hid (W0.heap[w.heap.size]? = some (.cells #[.slice none 0 0, .slice none 0 0] 25)) := by rw [← hW0]; exact hid (heap_new w _)
  have hg' := hid hg
  clear hT hg
  go_enter Tryz.func19, Tryz.ntmps19
  go_wp2
  clear hW0
  go_loopw [3, 13] (fun v i wr => ∃ k : Nat, k ≤ 2 ∧ i = .int .i64 k ∧ Hid (∃ vs, wr.ownsRow W0.heap.size 63 1 v vs.length vs ∧ CelF (fun j => v.ownBlock = some j) wr vs (exL k)) ∧ Hid (Below W0.heap.size W0 wr)) (fun _ i _ => 2 - (intOf i).toNat)
  case atStart => exact ⟨0, by omega, rfl, hid ⟨[], World.ownsRow_nil _ _ _ _, CelF.nil _ _⟩, hid (Below.refl _ _)⟩
  case round =>
    obtain ⟨k, hk, rfl, hOx, hbl⟩ := hrel
    obtain ⟨vs, hO, hC⟩ := hOx.out
    have hO := hid hO
    have hC := hid hC
    clear hOx
    have hvl : vs.length ≤ 2 := by
      rw [hC.out.1]
      unfold exL
      rw [List.length_take]
      omega
    obtain ⟨va, vc, rfl⟩ := own_shape hO.out
    have hbw : Hid (Below w.heap.size w wr) := hid (bl_step hb0.out hbl.out)
    obtain ⟨s0, s1, -⟩ := cells2m (hs_keep hg'.out hbw.out)
    have hown : Hid (∀ j, (Value.slice va vs.length vc).ownBlock = some j → W0.heap.size ≤ j ∧ j < wr.heap.size) := hid (fun j e => hO.out.lt j e)
    have hstep : Hid (∀ (t : Rx) (x : Value) (u w' : World) (o : Obj) (g3 c3 : Nat), exL (k + 1) = exL k ++ [post t] → Below wr.heap.size wr u → Cels u x (post t) → Off (fun j => j < wr.heap.size) x → w'.ownsRow W0.heap.size 63 1 (.slice (some ⟨g3, 0, none⟩) (vs.length + 1) c3) (vs.length + 1) (vs ++ [x]) → (u.alloc o).grownBy w' (Value.slice va vs.length vc).ownBlock → ((Value.slice va vs.length vc).ownBlock = some g3 ∨ g3 = (u.alloc o).heap.size) → (∃ vs', w'.ownsRow W0.heap.size 63 1 (.slice (some ⟨g3, 0, none⟩) (vs.length + 1) c3) vs'.length vs' ∧ CelF (fun j => (Value.slice (some ⟨g3, 0, none⟩) (vs.length + 1) c3).ownBlock = some j) w' vs' (exL (k + 1))) ∧ Below W0.heap.size W0 w') := hid (fun t x u w' o g3 c3 he hu hx hxb ho hgr hat => by
      have hu2 := bl_step hu (al' u o)
      refine ⟨⟨vs ++ [x], by rw [List.length_append]; exact ho, ?_⟩, (bl_step hbl.out hu2).trans ((Kept.of_grown hgr).below (fun j e => (hown.out j e).1) (bl_step hbl.out hu2).size)⟩
      rw [he]
      have hC2 : CelF (fun j => (Value.slice va vs.length vc).ownBlock = some j) (u.alloc o) vs (exL k) := ⟨hC.out.1, fun j => ⟨(hC.out.2 j).1.keep hu2, (hC.out.2 j).2⟩⟩
      refine hC2.snoc (hx.keep (al' u o)) (fun ad n c e h0 hf => hxb ad n c e h0 (hown.out _ hf).2) hgr (fun j e => e) (fun j e => ?_)
      have e1 : g3 = j := by injection e
      subst e1
      rcases hat with h1 | h1
      · exact Or.inl h1
      · exact Or.inr (by omega))
    have hszo : Hid (∀ u, Below wr.heap.size wr u → ∀ o, W0.heap.size ≤ (u.alloc o).heap.size) := hid (fun u hu o => (bl_step hbl.out (bl_step hu (al' u o))).size)
    have hOk : Hid (∀ u, Below wr.heap.size wr u → ∀ o, (u.alloc o).ownsRow W0.heap.size 63 1 (.slice va vs.length vc) vs.length vs) := hid (fun u hu o => own_below hO.out (bl_step hu (al' u o)))
    have hp1 : (post wkO).length = 3 := rfl
    have hp2 : (post wkC).length = 1 := rfl
    rcases (show k = 0 ∨ k = 1 ∨ k = 2 by omega) with rfl | rfl | rfl
    · have hex : Hid (exL (0 + 1) = exL 0 ++ [post wkO]) := hid rfl
      go_wp2_with (first
        | (at_builtin; refine wpList_append_lies _ (by rfl) _ _ _ (by rfl) W0.heap.size 63 iC (.slice none 0 0) 1 24 Tryz.underlying62 hiC zC0 zC1 zC2 rfl (by decide) (.slice va vs.length vc) vs.length vs (by rfl) (hOk.out w2 hb2.out _) ⟨w2.heap.size, 0, none⟩ 1 1 [.slice xa 3 xc] (by rfl) (by rfl) (World.news_of_block (heap_new w2 (.cells #[.slice xa 3 xc] 63))) (by simp [Value.oneCell']) (by omega) (by (unfold maxLen); omega) (by omega) (hszo.out w2 hb2.out _) (w2.alloc (.cells #[.slice xa 3 xc] 63)).heap.size rfl ?_; intro g3 c3 w3 hown3 hgrow3 hat3 hlt3; have hfin := hid (hstep.out wkO _ w2 w3 _ g3 c3 hex.out hb2.out hc2.out.1 hc2.out.2 hown3 hgrow3 hat3))
        | (go_at_call 30; refine (G1.out wr).mono ?_; rintro e w2 ⟨x, rfl, hc2, hb2⟩; obtain ⟨xa, xc, rfl⟩ := hc2.1.shape; have hb2 := hid hb2; have hc2 := hid hc2))
      go_roundw
      case rel => exact ⟨1, by omega, by first | rfl | go_num, hid hfin.out.1, hid hfin.out.2⟩
      case measure => simp [intOf]
    · have hex : Hid (exL (1 + 1) = exL 1 ++ [post wkC]) := hid rfl
      go_wp2_with (first
        | (at_builtin; refine wpList_append_lies _ (by rfl) _ _ _ (by rfl) W0.heap.size 63 iC (.slice none 0 0) 1 24 Tryz.underlying62 hiC zC0 zC1 zC2 rfl (by decide) (.slice va vs.length vc) vs.length vs (by rfl) (hOk.out w2 hb2.out _) ⟨w2.heap.size, 0, none⟩ 1 1 [.slice xa 1 xc] (by rfl) (by rfl) (World.news_of_block (heap_new w2 (.cells #[.slice xa 1 xc] 63))) (by simp [Value.oneCell']) (by omega) (by (unfold maxLen); omega) (by omega) (hszo.out w2 hb2.out _) (w2.alloc (.cells #[.slice xa 1 xc] 63)).heap.size rfl ?_; intro g3 c3 w3 hown3 hgrow3 hat3 hlt3; have hfin := hid (hstep.out wkC _ w2 w3 _ g3 c3 hex.out hb2.out hc2.out.1 hc2.out.2 hown3 hgrow3 hat3))
        | (go_at_call 30; refine (G2.out wr).mono ?_; rintro e w2 ⟨x, rfl, hc2, hb2⟩; obtain ⟨xa, xc, rfl⟩ := hc2.1.shape; have hb2 := hid hb2; have hc2 := hid hc2))
      go_roundw
      case rel => exact ⟨2, by omega, by first | rfl | go_num, hid hfin.out.1, hid hfin.out.2⟩
      case measure => simp [intOf]
    · have hC2 : Hid (Celss wr (.slice va vs.length vc) [post wkO, post wkC]) := hid (celss_of hO.out hC.out)
      have hzr : Hid (wr.heap[w.heap.size]? = some (.cells #[.slice none 0 0, .slice none 0 0] 25)) := hid (hs_keep hz0.out hbl.out)
      have hvs2 : Hid (vs.length = 2) := hid hC.out.1
      go_wp2_with (go_at_call 31; refine (GB.out _ wr hC2.out (hT'.out.keep hbw.out)).mono ?_; rintro e w3 ⟨nv, av, er, rfl, hR, hb3⟩; obtain ⟨rfl, hN, hA⟩ := hans.out _ _ _ _ hR; obtain ⟨na, nc, rfl⟩ : (∃ a c, nv = .slice a 3 c) := (by obtain ⟨a, c, e0, _⟩ := hN; rw [hnl.out] at e0; exact ⟨a, c, e0⟩); obtain ⟨aa, ac, rfl⟩ : (∃ a c, av = .slice a 3 c) := (by obtain ⟨a, c, e0, _⟩ := hA; rw [hal.out] at e0; exact ⟨a, c, e0⟩); have hN := hid hN; have hA := hid hA; have hb3 := hid hb3; have hal3 := hid (al' w3 (.cells #[.slice na 3 nc, .slice aa 3 ac] 25)); have hbk := hid (heap_new w3 (.cells #[.slice na 3 nc, .slice aa 3 ac] 25)); obtain ⟨q0, q1, -⟩ := cells2m hbk.out; have hz4 := hid (hs_keep (hs_keep hzr.out hb3.out) hal3.out); obtain ⟨x0, x1, y0, y1⟩ := cells2m hz4.out)
      have hfb : ((((w3.alloc (.cells #[.slice na 3 nc, .slice aa 3 ac] 25)).setCell ⟨w.heap.size, 0, none⟩ (.slice na 3 nc)).setCell ⟨w.heap.size, 1, none⟩ (.slice aa 3 ac))).heap[w.heap.size]? = some (.cells #[.slice na 3 nc, .slice aa 3 ac] 25 (0, 0)) := heap_setCell (heap_setCell hz4.out)
      obtain ⟨r0, r1, -⟩ := cells2m hfb
      have hkf : Kept (oneBlk w.heap.size) (w3.alloc (.cells #[.slice na 3 nc, .slice aa 3 ac] 25)) (((w3.alloc (.cells #[.slice na 3 nc, .slice aa 3 ac] 25)).setCell ⟨w.heap.size, 0, none⟩ (.slice na 3 nc)).setCell ⟨w.heap.size, 1, none⟩ (.slice aa 3 ac)) := ((Kept.refl (oneBlk w.heap.size) _).setCell (a := ⟨w.heap.size, 0, none⟩) (v := .slice na 3 nc) (fun _ => rfl)).setCell (a := ⟨w.heap.size, 1, none⟩) (v := .slice aa 3 ac) (fun _ => rfl)
      have hNf := numss_set (hN.out.keep hal3.out) (by rw [hnl.out]; omega) hz4.out (fun _ _ e => by cases e) (fun _ _ e => by cases e) hkf
      have hAf := (hA.out.keep hal3.out).kept hkf (nums_off (hA.out.keep hal3.out) hz4.out (fun _ _ e => by cases e) (fun _ _ e => by cases e))
      exact bodyPost_ret (v := .agg #[.slice na 3 nc, .slice aa 3 ac]) (by simp [results, Tryz.results19, go_sem, r0, r1]) rfl ⟨_, _, rfl, hNf, hAf, bl_set (bl_set (bl_step (bl_step hbw.out hb3.out) hal3.out) _ _ _ (Nat.le_refl _)) _ _ _ (Nat.le_refl _)⟩

end Go.Proofs.YtjelgphhlcecoaaGreatDoor
