/- The reader: items. gram.Parse: what lies ahead of the reader, and behind it. The grammar that the reader holds. gram.Parse. -/
import Derived.Test.YthgbjhnknepefaaGreatJ39
import Derived.Test.YthgbjhnknepefaaGreatJ33
import Derived.Test.YthgbjhnknepefaaGreatJ38
import Derived.Test.YthgbjhnknepefaaGreatJ20
namespace Go.Proofs.YthgbjhnknepefaaGreat
open Go.RowKit Go.Maps Go.Sort

def itN (w : World) (rb : Nat) : Nat := match w.cell? ⟨rb, 17, none⟩ with
  | some (.int _ e) => if e = 0 then wsN w rb + 1 else 0
  | _ => 0
theorem RdV.itN {B rb : Nat} {T : Nat → Nat} {w : World} {X : RX} {st : RS} (h : RdV B T w rb X st) : itN w rb = if st.err = 0 then st.ws.length + 1 else 0 := by
  have h0 : w.cell? ⟨rb, 17, none⟩ = some (.int .i64 st.err) := blk_cell h.blk rfl
  unfold Go.Proofs.YthgbjhnknepefaaGreat.itN
  rw [h0, h.wsN]
set_option maxRecDepth 20000 in
set_option maxHeartbeats 16000000 in
theorem itemsC {B rb : Nat} {T : Nat → Nat} {w : World} {X : RX} {st : RS} (h : RdV B T w rb X st) (hp : st.pot ≤ 80000) :
    Calls Tryz.prog 23 #[ptr0 rb] w fun r w' => r = .returned (.tuple #[]) ∧ RdP B T w rb (RS.items st.ws.length st) w' := by
  obtain ⟨R, hR⟩ : ∃ R, Hid (RS.items st.ws.length st = R) := ⟨_, hid rfl⟩
  rw [hR.out]
  have hr0 := hid h
  have hp0 := hid hp
  clear h hp
  go_enter Tryz.func23, Tryz.ntmps23
  go_wp2_with fail
  go_loopw [] (fun wr => ∃ (T1 : Nat → Nat) (X1 : RX) (st1 : RS), Hid (RdV B T1 wr rb X1 st1) ∧ Hid (Chg T T1 w wr) ∧ Hid (RS.items st1.ws.length st1 = R) ∧ Hid (st1.pot ≤ 80000)) (fun wr => itN wr rb)
  case atStart => exact ⟨T, X, st, hr0, hid (Chg.refl _ _), hR, hp0⟩
  case round =>
    obtain ⟨T1, X1, st1, hr, hc, hL, hb⟩ := hrel
    clear hr0 hR hp0
    have hm0 := hid hr.out.itN
    obtain ⟨b, o, n, cap, ⟨c0, k, p, t, le, l1, l2⟩, -, -⟩ := hr.out.ahd
    have c17 : wr.cell? ⟨rb, 17, none⟩ = some (.int .i64 st1.err) := blk_cell hr.out.blk rfl
    clear p t l1 l2
    by_cases he : st1.err = 0
    · by_cases hk : st1.hd.1 = 0
      · have e9 := hL.out
        rw [items_stop _ (fun e => e.2 hk)] at e9
        subst e9
        have hz : ((st1.hd.1 : Int) != 0) = false := by rw [bne_eq_false_iff_eq]; omega
        have hez : (st1.err == 0) = true := by rw [beq_iff_eq]; exact he
        have hQ : Hid (RdP B T w rb st1 wr) := hid ⟨T1, X1, hr.out, hc.out⟩
        clear hr hc hL hb hm0 hk he
        generalize (st1.hd.1 : Int) = kz at *
        generalize st1.err = er at *
        go_wp2
        go_end0
        exact ⟨rfl, hQ.out⟩
      · have hz : ((st1.hd.1 : Int) != 0) = true := by rw [bne_iff_ne]; omega
        have hez : (st1.err == 0) = true := by rw [beq_iff_eq]; exact he
        have e8 := hid ((items_step he hk).symm.trans hL.out)
        have hnx := hid (item_next he)
        have hp1 := hid (RS.item_pot st1)
        have GI := hid (rdItemC hr.out hb.out)
        have he0 := hid he
        clear hL hr he hk
        generalize (st1.hd.1 : Int) = kz at *
        generalize hE : st1.err = er at c17 hez
        clear hE
        go_wp2_with (go_at_call 44; refine GI.out.mono ?_; clear GI; rintro e u4 ⟨rfl, T4, X4, hr4, hc4⟩; have hm4 := hid hr4.itN; have hr4 := hid hr4; have hc4 := hid (hc.out.trans hc4))
        go_roundw
        case rel => exact ⟨T4, X4, _, hr4, hc4, e8, hid (by have := hp1.out; have := hb.out; omega)⟩
        case measure =>
          rw [hm4.out, hm0.out, if_pos he0.out]
          rcases hnx.out with h9 | h9
          · rw [if_neg h9]; omega
          · split <;> omega
    · have e9 := hL.out
      rw [items_stop _ (fun e => he e.1)] at e9
      subst e9
      have hez : (st1.err == 0) = false := by rw [beq_eq_false_iff_ne]; exact he
      have hQ : Hid (RdP B T w rb st1 wr) := hid ⟨T1, X1, hr.out, hc.out⟩
      clear hr hc hL hb hm0 he
      generalize st1.err = er at *
      go_wp2
      go_end0
      exact ⟨rfl, hQ.out⟩

end Go.Proofs.YthgbjhnknepefaaGreat
namespace Go.Proofs.YthgbjhnknepefaaGreat
open Go.RowKit Go.Maps

theorem wrdR_len (T : Txt) : ∀ (f a : Nat) (l : List Wd), (wrdR T f a l).1.length ≤ l.length + f
  | 0, a, l => Nat.le_refl _
  | f + 1, a, l => by
    rw [wrdR]
    split
    · show l.length ≤ _; omega
    · split
      · show ([] : List Wd).length ≤ _; simp
      · refine Nat.le_trans (wrdR_len T f _ _) ?_
        rw [List.length_append, List.length_singleton]
        omega
theorem wrdA_len (s : Txt) (h : (wrdA s).2.2 = 0) : (wrdA s).1.length ≤ 4000 := by
  unfold wrdA at h ⊢
  split at h
  · cases h
  · rename_i h4
    rw [if_neg h4]
    have := wrdR_len s s.length (skL false s) []
    simp at this
    omega
abbrev gm0 : Obj := .cells #[.slice none 0 0, .slice none 0 0, .slice none 0 0, .slice none 0 0, .int .i64 0] 27
def X0 (v : Value) : RX := ⟨v, .slice none 0 0, .slice none 0 0, .slice none 0 0, .slice none 0 0, .slice none 0 0, .slice none 0 0, .slice none 0 0, [], []⟩
/-- the reader as it begins -/
theorem RdV.begin {w u : World} {g cap R : Nat} {ws : List Wd} (hb : w.heap.size ≤ R) (hR : R < u.heap.size) (hO : u.ownsRow w.heap.size 53 3 (.slice (some ⟨g, 0, none⟩) ws.length cap) ws.length (ws.flatMap wdV)) (hg : g ≠ R) (hk : Below w.heap.size w u) (he : Endd ws) :
    RdV w.heap.size (tagT (tagT (fun _ => 0) R 77) u.heap.size 99) (u.alloc (rdO (X0 (.slice (some ⟨g, 0, none⟩) ws.length cap)) 0 0 0 0)) u.heap.size (X0 (.slice (some ⟨g, 0, none⟩) ws.length cap)) (RS.init ws) ∧ Chg (fun _ => 0) (tagT (tagT (fun _ => 0) R 77) u.heap.size 99) w (u.alloc (rdO (X0 (.slice (some ⟨g, 0, none⟩) ws.length cap)) 0 0 0 0)) := by
  have hal := al' u (rdO (X0 (.slice (some ⟨g, 0, none⟩) ws.length cap)) 0 0 0 0)
  have hz : (u.alloc (rdO (X0 (.slice (some ⟨g, 0, none⟩) ws.length cap)) 0 0 0 0)).heap.size = u.heap.size + 1 := World.size_alloc ..
  have hgl := (hO.lt g rfl).2
  have hws := hk.size
  have hnil : ∀ (i : Nat) (te : TypeId) (sz : Nat), OwnI (u.alloc (rdO (X0 (.slice (some ⟨g, 0, none⟩) ws.length cap)) 0 0 0 0)) w.heap.size (tagT (tagT (fun _ => 0) R 77) u.heap.size 99) i te sz (.slice none 0 0) 0 [] := fun i te sz => ⟨World.ownsRow_nil _ _ _ _, fun b e => by cases e⟩
  have ht0 : ∀ b, b ≠ u.heap.size → b ≠ R → tagT (tagT (fun _ => 0) R 77) u.heap.size 99 b = 0 := fun b h1 h2 => by
    show (if b = u.heap.size then 99 else if b = R then 77 else 0) = 0
    rw [if_neg h1, if_neg h2]
  refine ⟨⟨heap_new u _, if_pos rfl, fun b hn => ?_, by omega, ?_, he, hnil _ _ _, rfl, fun x hx => (by cases hx), hnil _ _ _, hnil _ _ _, hnil _ _ _, hnil _ _ _, hnil _ _ _, hnil _ _ _, rfl, fun x hx => (by cases hx)⟩, Kept.of_below (bl_step hk hal), fun b hb9 => ht0 b (by omega) (by omega)⟩
  · by_cases h1 : b = u.heap.size
    · omega
    · by_cases h2 : b = R
      · omega
      · exact absurd (ht0 b h1 h2) hn
  · obtain ⟨a, c, e, hc, -, hat⟩ := own_at (sz := 3) (cs := wdV) (fun _ => rfl) (by decide) (own_below hO hal)
    injection e with e1 _ e3
    subst e1 e3
    refine ⟨g, 0, cap, rfl, hc, ht0 g (by omega) hg, by omega, fun j hj => ?_⟩
    obtain ⟨b, o, e4, h1, h2⟩ := hat j hj
    injection e4 with e4
    injection e4 with e4 e5 _
    subst e4 e5
    exact ⟨h2 0 (by decide), h2 1 (by decide), h2 2 (by decide)⟩
theorem init_pot (ws : List Wd) : (RS.init ws).pot = 4 * ws.length := by unfold RS.init RS.pot RS.lens; simp
theorem wsE_end (s : Txt) : Endd (wsE s) := ⟨(wrdA s).1, s.length, rfl⟩

end Go.Proofs.YthgbjhnknepefaaGreat
namespace Go.Proofs.YthgbjhnknepefaaGreat
open Go.RowKit Go.Maps

theorem RdW.gm {B rb : Nat} {T : Nat → Nat} {w : World} {X : RX} {st : RS} {f : FS} {lv : Value} {rs : List Value} {mp : Option Nat} (h : RdW B T w rb X st f lv rs mp) (he : st.err = 0) : GmV w X.rv X.nv lv X.pv ⟨st.rules, st.nonts, f.levels, f.prods, f.start⟩ := by
  refine ⟨?_, txt_own h.nonts.1, lev_own h.levels.1, ?_⟩
  · have hl := h.rlen
    have hz : (st.rules.zip X.rl).length = st.rules.length := by rw [List.length_zip, hl, Nat.min_self]
    have hO := h.rules.1
    rw [← hz] at hO
    obtain ⟨a, cap, e, hc, hn, hat⟩ := own_at (sz := 3) (cs := fun x : Rl × Value => rlV x.1 x.2) (fun _ => rfl) (by decide) hO
    refine ⟨a, cap, by rw [e, hz], by rw [← hz]; exact hc, hn, fun j hj => ?_⟩
    have hj2 : j < (st.rules.zip X.rl).length := by rw [hz]; exact hj
    obtain ⟨b, o, e1, h1, h2⟩ := hat j hj2
    have hm := List.getElem_mem hj2
    have hR := (h.rre _ hm).2 he
    rw [List.getElem_zip] at h2 hR
    exact ⟨b, o, e1, h1, X.rl[j]'(by rw [hl]; exact hj), h2 0 (by decide), h2 1 (by decide), h2 2 (by decide), hR.1⟩
  · have hl := h.rslen
    have hz : (f.prods.zip rs).length = f.prods.length := by rw [List.length_zip, hl, Nat.min_self]
    have hO := h.prods.1
    rw [← hz] at hO
    obtain ⟨a, cap, e, hc, hn, hat⟩ := own_at (sz := 3) (cs := fun x : Pd × Value => prV x.1 x.2) (fun _ => rfl) (by decide) hO
    refine ⟨a, cap, by rw [e, hz], by rw [← hz]; exact hc, hn, fun j hj => ?_⟩
    have hj2 : j < (f.prods.zip rs).length := by rw [hz]; exact hj
    obtain ⟨b, o, e1, h1, h2⟩ := hat j hj2
    rw [List.getElem_zip] at h2
    have hjr : j < rs.length := by rw [hl]; exact hj
    exact ⟨b, o, e1, h1, rs[j], h2 0 (by decide), h2 1 (by decide), h2 2 (by decide), nums_own (h.rights j hjr hj).1⟩

end Go.Proofs.YthgbjhnknepefaaGreat
namespace Go.Proofs.YthgbjhnknepefaaGreat
open Go.RowKit Go.Maps

set_option maxRecDepth 20000 in
/-- ahead of the reader: words and the end -/
theorem parseA (s : Txt) (w : World) (_hs : s.length ≤ 1000000) (h0 : (wrdA s).2.2 = 0) :
    ∀ u v, WdM (w.alloc gm0) u v (wrdA s).1 → ∃ A C u6, (Builtin.append_ #[49, 49] 49 #[v, .slice (some ⟨u.heap.size, 0, none⟩) 1 1]).run Tryz.prog (u.alloc (.cells #[.int .i64 0, .int .i64 (s.length : Int), .string ⟨#[]⟩] 53)) = .ok (.slice A (wsE s).length C) u6 ∧
      ∃ T X, RdV w.heap.size T (u6.alloc (rdO (X0 (.slice A (wsE s).length C)) 0 0 0 0)) u6.heap.size X (RS.init (wsE s)) ∧ Chg (fun _ => 0) T w (u6.alloc (rdO (X0 (.slice A (wsE s).length C)) 0 0 0 0)) ∧ T w.heap.size = 77 ∧ (u6.alloc (rdO (X0 (.slice A (wsE s).length C)) 0 0 0 0)).heap[w.heap.size]? = some gm0 := fun u v hW => by
  obtain ⟨i0, hi0, za, zb, zc⟩ := info_parts Tryz.infoWd
  have hal0 := al' w gm0
  have hz0 : (w.alloc gm0).heap.size = w.heap.size + 1 := World.size_alloc ..
  have hlow := hW.low
  have hOI : OwnI u (w.alloc gm0).heap.size (fun _ => 0) 0 53 3 v (wrdA s).1.length ((wrdA s).1.flatMap wdV) := ⟨hW.own, fun _ _ => rfl⟩
  have hlen := wrdA_len s h0
  obtain ⟨A, C, u6, hrun, hO, hk, -, -⟩ := own_appI (tS := 49) (ty := 49) Tryz.underlying49 hi0 za zb zc rfl (by decide) hOI #[.int .i64 0, .int .i64 (s.length : Int), .string ⟨#[]⟩] rfl (fun x hx => by simp at hx; rcases hx with rfl | rfl | rfl <;> rfl) (by omega) (by decide) hlow.size (fun _ _ => rfl)
  have el : (wsE s).length = (wrdA s).1.length + 1 := by unfold wsE; rw [List.length_append]; rfl
  have ef : (wsE s).flatMap wdV = (wrdA s).1.flatMap wdV ++ [.int .i64 0, .int .i64 (s.length : Int), .string ⟨#[]⟩] := by unfold wsE; rw [List.flatMap_append, List.flatMap_singleton]; rfl
  rw [← el] at hrun hO
  have hO1 : u6.ownsRow (w.alloc gm0).heap.size 53 3 (.slice A (wsE s).length C) (wsE s).length ((wsE s).flatMap wdV) := by rw [ef]; exact hO.1
  refine ⟨A, C, u6, hrun, ?_⟩
  rcases hO1.2 with ⟨h1, h2⟩ | ⟨g, cap, cur, h1, h2, h3, -⟩
  · omega
  · injection h1 with h1 _ h5
    subst h1 h5
    have hkB : Below (w.alloc gm0).heap.size (w.alloc gm0) u6 := hlow.trans (hk.below (fun k e => (hW.own.lt k e).1) hlow.size)
    have hBw : Below w.heap.size w u6 := bl_step hal0 hkB
    have hgR : u6.heap[w.heap.size]? = some gm0 := (hkB.block _ (by omega)).trans (heap_new w gm0)
    obtain ⟨hR, hC⟩ := RdV.begin (R := w.heap.size) (Nat.le_refl _) (blk_lt hgR) (own_low hO1 (by omega)) (by omega) hBw (wsE_end s)
    have hlt := blk_lt hgR
    refine ⟨_, _, hR, hC, ?_, hs_keep hgR (al' u6 _)⟩
    show (if w.heap.size = u6.heap.size then 99 else if w.heap.size = w.heap.size then 77 else 0) = 77
    rw [if_neg (by omega), if_pos rfl]

end Go.Proofs.YthgbjhnknepefaaGreat
