/- One more in a row of the reader: what an append and a store leave. The reader: then, addRule, addNont. The reader: once, levelled, symbol, prec: what is left to be done, as functions. The reader: start. -/
import Derived.Test.YtcledgljbmepaaaGreatDoorJ17
namespace Go.Proofs.YtcledgljbmepaaaGreatDoor
open Go.RowKit Go.Maps Go.Sort

set_option maxRecDepth 20000 in
theorem Tryz.infSt : (Tryz.prog.info? 80).map (fun i => (i.zero, i.size, i.bytes)) = some (some (.agg #[.int .i64 0, .nilFunc]), 2, 16) := by kernel_rfl
def tagV (T : Nat → Nat) (v : Value) (i : Nat) : Nat → Nat := fun b => if v.ownBlock = some b then i else T b
set_option maxRecDepth 20000 in
theorem own_appI {tS ty tE : TypeId} {i0 : TypeInfo} {z : Value} {sz bytes : Nat} (ht : Tryz.prog.underlying tS = some (.slice tE)) (hi : Tryz.prog.info? tE = some i0) (hz : i0.zero = some z) (hs : i0.size = sz) (hb : i0.bytes = bytes) (hzs : z.cells.size = sz) (hsz : 0 < sz)
    {w : World} {B i n : Nat} {T : Nat → Nat} {v : Value} {xs : List Value} (h : OwnI w B T i tE sz v n xs) (ys : Array Value) (hys : ys.size = sz) (h1 : ∀ u ∈ ys.toList, u.oneCell' = true) (hn : n ≤ 100000) (hbn : bytes ≤ 1000) (hB : B ≤ w.heap.size) (hfr : ∀ b, w.heap.size ≤ b → T b = 0) :
    ∃ a c w', (Builtin.append_ #[tS, tS] ty #[v, .slice (some ⟨w.heap.size, 0, none⟩) 1 1]).run Tryz.prog (w.alloc (.cells ys tE)) = .ok (.slice a (n + 1) c) w' ∧ OwnI w' B (tagV T (.slice a (n + 1) c) i) i tE sz (.slice a (n + 1) c) (n + 1) (xs ++ ys.toList) ∧ Kept (fun b => v.ownBlock = some b) w w' ∧
      (∀ b, b < w.heap.size → tagV T (.slice a (n + 1) c) i b = T b) ∧ (∀ b, tagV T (.slice a (n + 1) c) i b ≠ 0 → T b ≠ 0 ∨ B ≤ b ∧ b < w'.heap.size) := by
  have hal := al' w (.cells ys tE)
  have hO := own_below h.1 hal
  obtain ⟨v', w', hr, hO', hg, -, hat⟩ := run_append_own_at (P := Tryz.prog) (w := w.alloc (.cells ys tE)) B tS ty tE i0 z sz bytes ht hi hz hs hb hzs hsz v n xs hO ⟨w.heap.size, 0, none⟩ 1 1 ys.toList (by rw [Array.length_toList, hys, Nat.one_mul]) (fun j u hj => by
    have ea : (⟨w.heap.size, 0, none⟩ : Addr).add j = ⟨w.heap.size, j, none⟩ := by rw [Go.WideShapes.add_plain, Nat.zero_add]
    rw [ea]
    exact blk_cell (heap_new w _) (by rw [← hj]; simp)) h1 (by unfold maxLen; omega) (by have := Nat.mul_le_mul (show n + 1 ≤ 100001 by omega) hbn; omega) (Nat.le_trans hB hal.size)
  obtain ⟨a, c, rfl⟩ := own_shape hO'
  have hsz1 : w.heap.size < (w.alloc (.cells ys tE)).heap.size := by rw [World.size_alloc]; omega
  have hk : Kept (fun b => v.ownBlock = some b) w w' := (Kept.of_below hal).step (Kept.of_grown hg) (fun _ _ h => h)
  have hold : ∀ b, b < w.heap.size → tagV T (.slice a (n + 1) c) i b = T b := fun b hb9 => by
    unfold tagV
    split
    · rename_i e
      rcases hat with h9 | h9
      · rw [e] at h9
        exact (h.2 b h9.symm).symm
      · rw [e] at h9
        injection h9 with h9
        omega
    · rfl
  refine ⟨a, c, w', hr, ⟨hO', fun b e => if_pos e⟩, hk, hold, fun b hn9 => ?_⟩
  rcases Nat.lt_or_ge b w.heap.size with h9 | h9
  · rw [hold b h9] at hn9
    exact .inl hn9
  · refine .inr ⟨Nat.le_trans hB h9, ?_⟩
    unfold tagV at hn9
    split at hn9
    · rename_i e
      exact (hO'.lt b e).2
    · exact absurd (hfr b h9) hn9
theorem zip_snoc {α β : Type} (l : List α) (m : List β) (a : α) (b : β) (h : m.length = l.length) : (l ++ [a]).zip (m ++ [b]) = l.zip m ++ [(a, b)] := by rw [List.zip_append h.symm]; rfl
theorem one_R (t : Txt) (b : Bool) {v : Value} (h : v.oneCell' = true) : ∀ u ∈ (#[.string (strT t), v, .bool b] : Array Value).toList, u.oneCell' = true := fun u hu => by
  simp at hu
  rcases hu with rfl | rfl | rfl
  · rfl
  · exact h
  · rfl
theorem one_S (n : Int) {v : Value} (h : v.oneCell' = true) : ∀ u ∈ (#[.int .i64 n, v] : Array Value).toList, u.oneCell' = true := fun u hu => by
  simp at hu
  rcases hu with rfl | rfl
  · rfl
  · exact h
theorem one_W (x : Wd) : ∀ u ∈ (#[.int .i64 (x.1 : Int), .int .i64 (x.2.1 : Int), .string (strT x.2.2)] : Array Value).toList, u.oneCell' = true := fun u hu => by
  simp at hu
  rcases hu with rfl | rfl | rfl <;> rfl
set_option maxRecDepth 20000 in
theorem RdV.app_rules {B rb : Nat} {T : Nat → Nat} {w : World} {X : RX} {st : RS} (h : RdV B T w rb X st) (r : Rl) (v : Value) (hv : RuC T w st.err v r.re) (h1v : v.oneCell' = true) (hn : st.rules.length ≤ 100000) :
    ∃ a c w', (Builtin.append_ #[23, 23] 23 #[X.rv, .slice (some ⟨w.heap.size, 0, none⟩) 1 1]).run Tryz.prog (w.alloc (.cells #[.string (strT r.name), v, .bool r.skip] 68)) = .ok (.slice a (st.rules.length + 1) c) w' ∧ w'.heap[rb]? = w.heap[rb]? ∧
      ∃ T' X', RdV B T' (w'.setCell ⟨rb, 1, none⟩ (.slice a (st.rules.length + 1) c)) rb X' (st.addR r) ∧ Chg T T' w (w'.setCell ⟨rb, 1, none⟩ (.slice a (st.rules.length + 1) c)) := by
  obtain ⟨i0, hi0, za, zb, zc⟩ := info_parts Tryz.infRl
  obtain ⟨a, c, w', hrun, hO, hk, hold, hown⟩ := own_appI (tS := 23) (ty := 23) Tryz.underlying23 hi0 za zb zc rfl (by decide) h.rules #[.string (strT r.name), v, .bool r.skip] rfl (one_R r.name r.skip h1v) hn (by decide) h.base (fun b hb => h.fresh hb)
  have hrb := blk_lt h.blk
  have hnr : ∀ b, X.rv.ownBlock = some b → T b = 1 := h.rules.2
  have hbk : w'.heap[rb]? = w.heap[rb]? := hk.block rb hrb (fun e => by have := hnr rb e; rw [h.rt] at this; cases this)
  refine ⟨a, c, w', hrun, hbk, tagV T (.slice a (st.rules.length + 1) c) 1, { X with rv := .slice a (st.rules.length + 1) c, rl := X.rl ++ [v] }, ?_⟩
  generalize hTT : tagV T (.slice a (st.rules.length + 1) c) 1 = T' at *
  have hrt : T' rb = 99 := (hold rb hrb).trans h.rt
  have hkF : Kept (fun b => X.rv.ownBlock = some b ∨ b = rb) w (w'.setCell ⟨rb, 1, none⟩ (.slice a (st.rules.length + 1) c)) := (hk.mono (fun _ _ e => .inl e)).setCell (fun _ => .inr rfl)
  have hF : ∀ j, j ≠ 99 → j ≠ 1 → ∀ b, X.rv.ownBlock = some b ∨ b = rb → T b ≠ j := fun j h9 h8 b e => by
    rcases e with e | e
    · rw [hnr b e]; exact h8.symm
    · rw [e, h.rt]; exact h9.symm
  have hc : Chg T T' w (w'.setCell ⟨rb, 1, none⟩ (.slice a (st.rules.length + 1) c)) := ⟨hkF.mono (fun b _ e => by
    rcases e with e | e
    · rw [hnr b e]; decide
    · rw [show b = rb from e, h.rt]; decide), hold⟩
  have hsz : (w'.setCell ⟨rb, 1, none⟩ (.slice a (st.rules.length + 1) c)).heap.size = w'.heap.size := by simp
  have hown2 : (w'.setCell ⟨rb, 1, none⟩ (.slice a (st.rules.length + 1) c)).ownsRow B 68 3 (.slice a (st.rules.length + 1) c) (st.rules.length + 1) _ := own_set hO.1 (fun e => by have := hO.2 rb e; rw [hrt] at this; cases this)
  have hblk : (w'.setCell ⟨rb, 1, none⟩ (.slice a (st.rules.length + 1) c)).heap[rb]? = _ := heap_setCell (hbk.trans h.blk)
  refine ⟨⟨hblk, hrt, fun b hn9 => ?_, by rw [hsz]; exact Nat.le_trans h.base hk.size, h.words.keep hc, h.wf, ?_, (by show (X.rl ++ [v]).length = (st.rules ++ [r]).length; rw [List.length_append, List.length_append, h.rlen]; rfl), (fun x hx => by
    have hx : x ∈ (st.rules ++ [r]).zip (X.rl ++ [v]) := hx
    rw [zip_snoc _ _ _ _ h.rlen, List.mem_append, List.mem_singleton] at hx
    rcases hx with hx | rfl
    · exact (h.rre x hx).keep hc
    · exact hv.keep hc), h.nonts.kept hkF (hF 2 (by decide) (by decide)) hold, h.prods.kept hkF (hF 4 (by decide) (by decide)) hold, h.skips.kept hkF (hF 8 (by decide) (by decide)) hold, h.terms.kept hkF (hF 9 (by decide) (by decide)) hold, h.nons.kept hkF (hF 10 (by decide) (by decide)) hold, h.later.kept hkF (hF 15 (by decide) (by decide)) hold, h.flen, (fun x hx => (h.fst x hx).keep hc)⟩, hc⟩
  · rw [hsz]
    rcases hown b hn9 with h9 | h9
    · exact ⟨(h.own b h9).1, Nat.lt_of_lt_of_le (h.own b h9).2 hk.size⟩
    · exact h9
  · have e1 : ((st.rules ++ [r]).zip (X.rl ++ [v])).flatMap (fun x => rlV x.1 x.2) = (st.rules.zip X.rl).flatMap (fun x => rlV x.1 x.2) ++ [.string (strT r.name), v, .bool r.skip] := by rw [zip_snoc _ _ _ _ h.rlen, List.flatMap_append, List.flatMap_singleton]; rfl
    have e2 : (st.rules ++ [r]).length = st.rules.length + 1 := by rw [List.length_append]; rfl
    refine ⟨?_, hO.2⟩
    show World.ownsRow _ _ _ _ _ (st.rules ++ [r]).length (((st.rules ++ [r]).zip (X.rl ++ [v])).flatMap (fun x => rlV x.1 x.2))
    rw [e1, e2]
    exact hown2
set_option maxRecDepth 20000 in
theorem RdV.app_nonts {B rb : Nat} {T : Nat → Nat} {w : World} {X : RX} {st : RS} (h : RdV B T w rb X st) (t : Txt) (hn : st.nonts.length ≤ 100000) :
    ∃ a c w', (Builtin.append_ #[24, 24] 24 #[X.nv, .slice (some ⟨w.heap.size, 0, none⟩) 1 1]).run Tryz.prog (w.alloc (.cells #[.string (strT t)] 9)) = .ok (.slice a (st.nonts.length + 1) c) w' ∧ w'.heap[rb]? = w.heap[rb]? ∧
      ∃ T' X', RdV B T' (w'.setCell ⟨rb, 2, none⟩ (.slice a (st.nonts.length + 1) c)) rb X' (st.addN t) ∧ Chg T T' w (w'.setCell ⟨rb, 2, none⟩ (.slice a (st.nonts.length + 1) c)) := by
  obtain ⟨i0, hi0, za, zb, zc⟩ := info_parts Tryz.infoTx
  obtain ⟨a, c, w', hrun, hO, hk, hold, hown⟩ := own_appI (tS := 24) (ty := 24) Tryz.underlying24 hi0 za zb zc rfl (by decide) h.nonts #[.string (strT t)] rfl (fun u hu => by simp at hu; rw [hu]; rfl) hn (by decide) h.base (fun b hb => h.fresh hb)
  have hrb := blk_lt h.blk
  have hnr : ∀ b, X.nv.ownBlock = some b → T b = 2 := h.nonts.2
  have hbk : w'.heap[rb]? = w.heap[rb]? := hk.block rb hrb (fun e => by have := hnr rb e; rw [h.rt] at this; cases this)
  refine ⟨a, c, w', hrun, hbk, tagV T (.slice a (st.nonts.length + 1) c) 2, { X with nv := .slice a (st.nonts.length + 1) c }, ?_⟩
  generalize hTT : tagV T (.slice a (st.nonts.length + 1) c) 2 = T' at *
  have hrt : T' rb = 99 := (hold rb hrb).trans h.rt
  have hkF : Kept (fun b => X.nv.ownBlock = some b ∨ b = rb) w (w'.setCell ⟨rb, 2, none⟩ (.slice a (st.nonts.length + 1) c)) := (hk.mono (fun _ _ e => .inl e)).setCell (fun _ => .inr rfl)
  have hF : ∀ j, j ≠ 99 → j ≠ 2 → ∀ b, X.nv.ownBlock = some b ∨ b = rb → T b ≠ j := fun j h9 h8 b e => by
    rcases e with e | e
    · rw [hnr b e]; exact h8.symm
    · rw [e, h.rt]; exact h9.symm
  have hc : Chg T T' w (w'.setCell ⟨rb, 2, none⟩ (.slice a (st.nonts.length + 1) c)) := ⟨hkF.mono (fun b _ e => by
    rcases e with e | e
    · rw [hnr b e]; decide
    · rw [show b = rb from e, h.rt]; decide), hold⟩
  have hsz : (w'.setCell ⟨rb, 2, none⟩ (.slice a (st.nonts.length + 1) c)).heap.size = w'.heap.size := by simp
  have hown2 : (w'.setCell ⟨rb, 2, none⟩ (.slice a (st.nonts.length + 1) c)).ownsRow B 9 1 (.slice a (st.nonts.length + 1) c) (st.nonts.length + 1) _ := own_set hO.1 (fun e => by have := hO.2 rb e; rw [hrt] at this; cases this)
  have hblk : (w'.setCell ⟨rb, 2, none⟩ (.slice a (st.nonts.length + 1) c)).heap[rb]? = _ := heap_setCell (hbk.trans h.blk)
  refine ⟨⟨hblk, hrt, fun b hn9 => ?_, by rw [hsz]; exact Nat.le_trans h.base hk.size, h.words.keep hc, h.wf, h.rules.kept hkF (hF 1 (by decide) (by decide)) hold, h.rlen, (fun x hx => (h.rre x hx).keep hc), ?_, h.prods.kept hkF (hF 4 (by decide) (by decide)) hold, h.skips.kept hkF (hF 8 (by decide) (by decide)) hold, h.terms.kept hkF (hF 9 (by decide) (by decide)) hold, h.nons.kept hkF (hF 10 (by decide) (by decide)) hold, h.later.kept hkF (hF 15 (by decide) (by decide)) hold, h.flen, (fun x hx => (h.fst x hx).keep hc)⟩, hc⟩
  · rw [hsz]
    rcases hown b hn9 with h9 | h9
    · exact ⟨(h.own b h9).1, Nat.lt_of_lt_of_le (h.own b h9).2 hk.size⟩
    · exact h9
  · have e1 : (st.nonts ++ [t]).flatMap csT = st.nonts.flatMap csT ++ [.string (strT t)] := by rw [List.flatMap_append, List.flatMap_singleton]; rfl
    have e2 : (st.nonts ++ [t]).length = st.nonts.length + 1 := by rw [List.length_append]; rfl
    refine ⟨?_, hO.2⟩
    show World.ownsRow _ _ _ _ _ (st.nonts ++ [t]).length ((st.nonts ++ [t]).flatMap csT)
    rw [e1, e2]
    exact hown2
set_option maxRecDepth 20000 in
theorem RdV.app_prods {B rb : Nat} {T : Nat → Nat} {w : World} {X : RX} {st : RS} (h : RdV B T w rb X st) (_ : True) (hn : st.prods.length ≤ 100000) :
    ∃ a c w', (Builtin.append_ #[26, 26] 26 #[X.pv, .slice (some ⟨w.heap.size, 0, none⟩) 1 1]).run Tryz.prog (w.alloc (.cells #[.int .i64 (st.nonts.length : Int), .slice none 0 0, .int .i64 0] 39)) = .ok (.slice a (st.prods.length + 1) c) w' ∧ w'.heap[rb]? = w.heap[rb]? ∧
      ∃ T' X', RdV B T' (w'.setCell ⟨rb, 4, none⟩ (.slice a (st.prods.length + 1) c)) rb X' (st.addP) ∧ Chg T T' w (w'.setCell ⟨rb, 4, none⟩ (.slice a (st.prods.length + 1) c)) := by
  obtain ⟨i0, hi0, za, zb, zc⟩ := info_parts Tryz.infPd
  obtain ⟨a, c, w', hrun, hO, hk, hold, hown⟩ := own_appI (tS := 26) (ty := 26) Tryz.underlying26 hi0 za zb zc rfl (by decide) h.prods #[.int .i64 (st.nonts.length : Int), .slice none 0 0, .int .i64 0] rfl (fun u hu => by simp at hu; rcases hu with rfl | rfl | rfl <;> rfl) hn (by decide) h.base (fun b hb => h.fresh hb)
  have hrb := blk_lt h.blk
  have hnr : ∀ b, X.pv.ownBlock = some b → T b = 4 := h.prods.2
  have hbk : w'.heap[rb]? = w.heap[rb]? := hk.block rb hrb (fun e => by have := hnr rb e; rw [h.rt] at this; cases this)
  refine ⟨a, c, w', hrun, hbk, tagV T (.slice a (st.prods.length + 1) c) 4, { X with pv := .slice a (st.prods.length + 1) c }, ?_⟩
  generalize hTT : tagV T (.slice a (st.prods.length + 1) c) 4 = T' at *
  have hrt : T' rb = 99 := (hold rb hrb).trans h.rt
  have hkF : Kept (fun b => X.pv.ownBlock = some b ∨ b = rb) w (w'.setCell ⟨rb, 4, none⟩ (.slice a (st.prods.length + 1) c)) := (hk.mono (fun _ _ e => .inl e)).setCell (fun _ => .inr rfl)
  have hF : ∀ j, j ≠ 99 → j ≠ 4 → ∀ b, X.pv.ownBlock = some b ∨ b = rb → T b ≠ j := fun j h9 h8 b e => by
    rcases e with e | e
    · rw [hnr b e]; exact h8.symm
    · rw [e, h.rt]; exact h9.symm
  have hc : Chg T T' w (w'.setCell ⟨rb, 4, none⟩ (.slice a (st.prods.length + 1) c)) := ⟨hkF.mono (fun b _ e => by
    rcases e with e | e
    · rw [hnr b e]; decide
    · rw [show b = rb from e, h.rt]; decide), hold⟩
  have hsz : (w'.setCell ⟨rb, 4, none⟩ (.slice a (st.prods.length + 1) c)).heap.size = w'.heap.size := by simp
  have hown2 : (w'.setCell ⟨rb, 4, none⟩ (.slice a (st.prods.length + 1) c)).ownsRow B 39 3 (.slice a (st.prods.length + 1) c) (st.prods.length + 1) _ := own_set hO.1 (fun e => by have := hO.2 rb e; rw [hrt] at this; cases this)
  have hblk : (w'.setCell ⟨rb, 4, none⟩ (.slice a (st.prods.length + 1) c)).heap[rb]? = _ := heap_setCell (hbk.trans h.blk)
  refine ⟨⟨hblk, hrt, fun b hn9 => ?_, by rw [hsz]; exact Nat.le_trans h.base hk.size, h.words.keep hc, h.wf, h.rules.kept hkF (hF 1 (by decide) (by decide)) hold, h.rlen, (fun x hx => (h.rre x hx).keep hc), h.nonts.kept hkF (hF 2 (by decide) (by decide)) hold, ?_, h.skips.kept hkF (hF 8 (by decide) (by decide)) hold, h.terms.kept hkF (hF 9 (by decide) (by decide)) hold, h.nons.kept hkF (hF 10 (by decide) (by decide)) hold, h.later.kept hkF (hF 15 (by decide) (by decide)) hold, h.flen, (fun x hx => (h.fst x hx).keep hc)⟩, hc⟩
  · rw [hsz]
    rcases hown b hn9 with h9 | h9
    · exact ⟨(h.own b h9).1, Nat.lt_of_lt_of_le (h.own b h9).2 hk.size⟩
    · exact h9
  · have e1 : (st.prods ++ [st.nonts.length]).flatMap pdV = st.prods.flatMap pdV ++ [.int .i64 (st.nonts.length : Int), .slice none 0 0, .int .i64 0] := by rw [List.flatMap_append, List.flatMap_singleton]; rfl
    have e2 : (st.prods ++ [st.nonts.length]).length = st.prods.length + 1 := by rw [List.length_append]; rfl
    refine ⟨?_, hO.2⟩
    show World.ownsRow _ _ _ _ _ (st.prods ++ [st.nonts.length]).length ((st.prods ++ [st.nonts.length]).flatMap pdV)
    rw [e1, e2]
    exact hown2
set_option maxRecDepth 20000 in
theorem RdV.app_skips {B rb : Nat} {T : Nat → Nat} {w : World} {X : RX} {st : RS} (h : RdV B T w rb X st) (x : Wd) (hn : st.skips.length ≤ 100000) :
    ∃ a c w', (Builtin.append_ #[40, 40] 40 #[X.sk, .slice (some ⟨w.heap.size, 0, none⟩) 1 1]).run Tryz.prog (w.alloc (.cells #[.int .i64 (x.1 : Int), .int .i64 (x.2.1 : Int), .string (strT x.2.2)] 44)) = .ok (.slice a (st.skips.length + 1) c) w' ∧ w'.heap[rb]? = w.heap[rb]? ∧
      ∃ T' X', RdV B T' (w'.setCell ⟨rb, 8, none⟩ (.slice a (st.skips.length + 1) c)) rb X' (st.addW x true) ∧ Chg T T' w (w'.setCell ⟨rb, 8, none⟩ (.slice a (st.skips.length + 1) c)) := by
  obtain ⟨i0, hi0, za, zb, zc⟩ := info_parts Tryz.infoWd
  obtain ⟨a, c, w', hrun, hO, hk, hold, hown⟩ := own_appI (tS := 40) (ty := 40) Tryz.underlying40 hi0 za zb zc rfl (by decide) h.skips #[.int .i64 (x.1 : Int), .int .i64 (x.2.1 : Int), .string (strT x.2.2)] rfl (one_W x) hn (by decide) h.base (fun b hb => h.fresh hb)
  have hrb := blk_lt h.blk
  have hnr : ∀ b, X.sk.ownBlock = some b → T b = 8 := h.skips.2
  have hbk : w'.heap[rb]? = w.heap[rb]? := hk.block rb hrb (fun e => by have := hnr rb e; rw [h.rt] at this; cases this)
  refine ⟨a, c, w', hrun, hbk, tagV T (.slice a (st.skips.length + 1) c) 8, { X with sk := .slice a (st.skips.length + 1) c }, ?_⟩
  generalize hTT : tagV T (.slice a (st.skips.length + 1) c) 8 = T' at *
  have hrt : T' rb = 99 := (hold rb hrb).trans h.rt
  have hkF : Kept (fun b => X.sk.ownBlock = some b ∨ b = rb) w (w'.setCell ⟨rb, 8, none⟩ (.slice a (st.skips.length + 1) c)) := (hk.mono (fun _ _ e => .inl e)).setCell (fun _ => .inr rfl)
  have hF : ∀ j, j ≠ 99 → j ≠ 8 → ∀ b, X.sk.ownBlock = some b ∨ b = rb → T b ≠ j := fun j h9 h8 b e => by
    rcases e with e | e
    · rw [hnr b e]; exact h8.symm
    · rw [e, h.rt]; exact h9.symm
  have hc : Chg T T' w (w'.setCell ⟨rb, 8, none⟩ (.slice a (st.skips.length + 1) c)) := ⟨hkF.mono (fun b _ e => by
    rcases e with e | e
    · rw [hnr b e]; decide
    · rw [show b = rb from e, h.rt]; decide), hold⟩
  have hsz : (w'.setCell ⟨rb, 8, none⟩ (.slice a (st.skips.length + 1) c)).heap.size = w'.heap.size := by simp
  have hown2 : (w'.setCell ⟨rb, 8, none⟩ (.slice a (st.skips.length + 1) c)).ownsRow B 44 3 (.slice a (st.skips.length + 1) c) (st.skips.length + 1) _ := own_set hO.1 (fun e => by have := hO.2 rb e; rw [hrt] at this; cases this)
  have hblk : (w'.setCell ⟨rb, 8, none⟩ (.slice a (st.skips.length + 1) c)).heap[rb]? = _ := heap_setCell (hbk.trans h.blk)
  refine ⟨⟨hblk, hrt, fun b hn9 => ?_, by rw [hsz]; exact Nat.le_trans h.base hk.size, h.words.keep hc, h.wf, h.rules.kept hkF (hF 1 (by decide) (by decide)) hold, h.rlen, (fun x hx => (h.rre x hx).keep hc), h.nonts.kept hkF (hF 2 (by decide) (by decide)) hold, h.prods.kept hkF (hF 4 (by decide) (by decide)) hold, ?_, h.terms.kept hkF (hF 9 (by decide) (by decide)) hold, h.nons.kept hkF (hF 10 (by decide) (by decide)) hold, h.later.kept hkF (hF 15 (by decide) (by decide)) hold, h.flen, (fun x hx => (h.fst x hx).keep hc)⟩, hc⟩
  · rw [hsz]
    rcases hown b hn9 with h9 | h9
    · exact ⟨(h.own b h9).1, Nat.lt_of_lt_of_le (h.own b h9).2 hk.size⟩
    · exact h9
  · have e1 : (st.skips ++ [x]).flatMap wdV = st.skips.flatMap wdV ++ [.int .i64 (x.1 : Int), .int .i64 (x.2.1 : Int), .string (strT x.2.2)] := by rw [List.flatMap_append, List.flatMap_singleton]; rfl
    have e2 : (st.skips ++ [x]).length = st.skips.length + 1 := by rw [List.length_append]; rfl
    refine ⟨?_, hO.2⟩
    show World.ownsRow _ _ _ _ _ (st.skips ++ [x]).length ((st.skips ++ [x]).flatMap wdV)
    rw [e1, e2]
    exact hown2
set_option maxRecDepth 20000 in
theorem RdV.app_terms {B rb : Nat} {T : Nat → Nat} {w : World} {X : RX} {st : RS} (h : RdV B T w rb X st) (x : Wd) (hn : st.terms.length ≤ 100000) :
    ∃ a c w', (Builtin.append_ #[40, 40] 40 #[X.te, .slice (some ⟨w.heap.size, 0, none⟩) 1 1]).run Tryz.prog (w.alloc (.cells #[.int .i64 (x.1 : Int), .int .i64 (x.2.1 : Int), .string (strT x.2.2)] 44)) = .ok (.slice a (st.terms.length + 1) c) w' ∧ w'.heap[rb]? = w.heap[rb]? ∧
      ∃ T' X', RdV B T' (w'.setCell ⟨rb, 9, none⟩ (.slice a (st.terms.length + 1) c)) rb X' (st.addW x false) ∧ Chg T T' w (w'.setCell ⟨rb, 9, none⟩ (.slice a (st.terms.length + 1) c)) := by
  obtain ⟨i0, hi0, za, zb, zc⟩ := info_parts Tryz.infoWd
  obtain ⟨a, c, w', hrun, hO, hk, hold, hown⟩ := own_appI (tS := 40) (ty := 40) Tryz.underlying40 hi0 za zb zc rfl (by decide) h.terms #[.int .i64 (x.1 : Int), .int .i64 (x.2.1 : Int), .string (strT x.2.2)] rfl (one_W x) hn (by decide) h.base (fun b hb => h.fresh hb)
  have hrb := blk_lt h.blk
  have hnr : ∀ b, X.te.ownBlock = some b → T b = 9 := h.terms.2
  have hbk : w'.heap[rb]? = w.heap[rb]? := hk.block rb hrb (fun e => by have := hnr rb e; rw [h.rt] at this; cases this)
  refine ⟨a, c, w', hrun, hbk, tagV T (.slice a (st.terms.length + 1) c) 9, { X with te := .slice a (st.terms.length + 1) c }, ?_⟩
  generalize hTT : tagV T (.slice a (st.terms.length + 1) c) 9 = T' at *
  have hrt : T' rb = 99 := (hold rb hrb).trans h.rt
  have hkF : Kept (fun b => X.te.ownBlock = some b ∨ b = rb) w (w'.setCell ⟨rb, 9, none⟩ (.slice a (st.terms.length + 1) c)) := (hk.mono (fun _ _ e => .inl e)).setCell (fun _ => .inr rfl)
  have hF : ∀ j, j ≠ 99 → j ≠ 9 → ∀ b, X.te.ownBlock = some b ∨ b = rb → T b ≠ j := fun j h9 h8 b e => by
    rcases e with e | e
    · rw [hnr b e]; exact h8.symm
    · rw [e, h.rt]; exact h9.symm
  have hc : Chg T T' w (w'.setCell ⟨rb, 9, none⟩ (.slice a (st.terms.length + 1) c)) := ⟨hkF.mono (fun b _ e => by
    rcases e with e | e
    · rw [hnr b e]; decide
    · rw [show b = rb from e, h.rt]; decide), hold⟩
  have hsz : (w'.setCell ⟨rb, 9, none⟩ (.slice a (st.terms.length + 1) c)).heap.size = w'.heap.size := by simp
  have hown2 : (w'.setCell ⟨rb, 9, none⟩ (.slice a (st.terms.length + 1) c)).ownsRow B 44 3 (.slice a (st.terms.length + 1) c) (st.terms.length + 1) _ := own_set hO.1 (fun e => by have := hO.2 rb e; rw [hrt] at this; cases this)
  have hblk : (w'.setCell ⟨rb, 9, none⟩ (.slice a (st.terms.length + 1) c)).heap[rb]? = _ := heap_setCell (hbk.trans h.blk)
  refine ⟨⟨hblk, hrt, fun b hn9 => ?_, by rw [hsz]; exact Nat.le_trans h.base hk.size, h.words.keep hc, h.wf, h.rules.kept hkF (hF 1 (by decide) (by decide)) hold, h.rlen, (fun x hx => (h.rre x hx).keep hc), h.nonts.kept hkF (hF 2 (by decide) (by decide)) hold, h.prods.kept hkF (hF 4 (by decide) (by decide)) hold, h.skips.kept hkF (hF 8 (by decide) (by decide)) hold, ?_, h.nons.kept hkF (hF 10 (by decide) (by decide)) hold, h.later.kept hkF (hF 15 (by decide) (by decide)) hold, h.flen, (fun x hx => (h.fst x hx).keep hc)⟩, hc⟩
  · rw [hsz]
    rcases hown b hn9 with h9 | h9
    · exact ⟨(h.own b h9).1, Nat.lt_of_lt_of_le (h.own b h9).2 hk.size⟩
    · exact h9
  · have e1 : (st.terms ++ [x]).flatMap wdV = st.terms.flatMap wdV ++ [.int .i64 (x.1 : Int), .int .i64 (x.2.1 : Int), .string (strT x.2.2)] := by rw [List.flatMap_append, List.flatMap_singleton]; rfl
    have e2 : (st.terms ++ [x]).length = st.terms.length + 1 := by rw [List.length_append]; rfl
    refine ⟨?_, hO.2⟩
    show World.ownsRow _ _ _ _ _ (st.terms ++ [x]).length ((st.terms ++ [x]).flatMap wdV)
    rw [e1, e2]
    exact hown2
set_option maxRecDepth 20000 in
theorem RdV.app_nons {B rb : Nat} {T : Nat → Nat} {w : World} {X : RX} {st : RS} (h : RdV B T w rb X st) (x : Wd) (hn : st.nons.length ≤ 100000) :
    ∃ a c w', (Builtin.append_ #[40, 40] 40 #[X.no, .slice (some ⟨w.heap.size, 0, none⟩) 1 1]).run Tryz.prog (w.alloc (.cells #[.int .i64 (x.1 : Int), .int .i64 (x.2.1 : Int), .string (strT x.2.2)] 44)) = .ok (.slice a (st.nons.length + 1) c) w' ∧ w'.heap[rb]? = w.heap[rb]? ∧
      ∃ T' X', RdV B T' (w'.setCell ⟨rb, 10, none⟩ (.slice a (st.nons.length + 1) c)) rb X' (st.addO x) ∧ Chg T T' w (w'.setCell ⟨rb, 10, none⟩ (.slice a (st.nons.length + 1) c)) := by
  obtain ⟨i0, hi0, za, zb, zc⟩ := info_parts Tryz.infoWd
  obtain ⟨a, c, w', hrun, hO, hk, hold, hown⟩ := own_appI (tS := 40) (ty := 40) Tryz.underlying40 hi0 za zb zc rfl (by decide) h.nons #[.int .i64 (x.1 : Int), .int .i64 (x.2.1 : Int), .string (strT x.2.2)] rfl (one_W x) hn (by decide) h.base (fun b hb => h.fresh hb)
  have hrb := blk_lt h.blk
  have hnr : ∀ b, X.no.ownBlock = some b → T b = 10 := h.nons.2
  have hbk : w'.heap[rb]? = w.heap[rb]? := hk.block rb hrb (fun e => by have := hnr rb e; rw [h.rt] at this; cases this)
  refine ⟨a, c, w', hrun, hbk, tagV T (.slice a (st.nons.length + 1) c) 10, { X with no := .slice a (st.nons.length + 1) c }, ?_⟩
  generalize hTT : tagV T (.slice a (st.nons.length + 1) c) 10 = T' at *
  have hrt : T' rb = 99 := (hold rb hrb).trans h.rt
  have hkF : Kept (fun b => X.no.ownBlock = some b ∨ b = rb) w (w'.setCell ⟨rb, 10, none⟩ (.slice a (st.nons.length + 1) c)) := (hk.mono (fun _ _ e => .inl e)).setCell (fun _ => .inr rfl)
  have hF : ∀ j, j ≠ 99 → j ≠ 10 → ∀ b, X.no.ownBlock = some b ∨ b = rb → T b ≠ j := fun j h9 h8 b e => by
    rcases e with e | e
    · rw [hnr b e]; exact h8.symm
    · rw [e, h.rt]; exact h9.symm
  have hc : Chg T T' w (w'.setCell ⟨rb, 10, none⟩ (.slice a (st.nons.length + 1) c)) := ⟨hkF.mono (fun b _ e => by
    rcases e with e | e
    · rw [hnr b e]; decide
    · rw [show b = rb from e, h.rt]; decide), hold⟩
  have hsz : (w'.setCell ⟨rb, 10, none⟩ (.slice a (st.nons.length + 1) c)).heap.size = w'.heap.size := by simp
  have hown2 : (w'.setCell ⟨rb, 10, none⟩ (.slice a (st.nons.length + 1) c)).ownsRow B 44 3 (.slice a (st.nons.length + 1) c) (st.nons.length + 1) _ := own_set hO.1 (fun e => by have := hO.2 rb e; rw [hrt] at this; cases this)
  have hblk : (w'.setCell ⟨rb, 10, none⟩ (.slice a (st.nons.length + 1) c)).heap[rb]? = _ := heap_setCell (hbk.trans h.blk)
  refine ⟨⟨hblk, hrt, fun b hn9 => ?_, by rw [hsz]; exact Nat.le_trans h.base hk.size, h.words.keep hc, h.wf, h.rules.kept hkF (hF 1 (by decide) (by decide)) hold, h.rlen, (fun x hx => (h.rre x hx).keep hc), h.nonts.kept hkF (hF 2 (by decide) (by decide)) hold, h.prods.kept hkF (hF 4 (by decide) (by decide)) hold, h.skips.kept hkF (hF 8 (by decide) (by decide)) hold, h.terms.kept hkF (hF 9 (by decide) (by decide)) hold, ?_, h.later.kept hkF (hF 15 (by decide) (by decide)) hold, h.flen, (fun x hx => (h.fst x hx).keep hc)⟩, hc⟩
  · rw [hsz]
    rcases hown b hn9 with h9 | h9
    · exact ⟨(h.own b h9).1, Nat.lt_of_lt_of_le (h.own b h9).2 hk.size⟩
    · exact h9
  · have e1 : (st.nons ++ [x]).flatMap wdV = st.nons.flatMap wdV ++ [.int .i64 (x.1 : Int), .int .i64 (x.2.1 : Int), .string (strT x.2.2)] := by rw [List.flatMap_append, List.flatMap_singleton]; rfl
    have e2 : (st.nons ++ [x]).length = st.nons.length + 1 := by rw [List.length_append]; rfl
    refine ⟨?_, hO.2⟩
    show World.ownsRow _ _ _ _ _ (st.nons ++ [x]).length ((st.nons ++ [x]).flatMap wdV)
    rw [e1, e2]
    exact hown2
set_option maxRecDepth 20000 in
theorem RdV.app_later {B rb : Nat} {T : Nat → Nat} {w : World} {X : RX} {st : RS} (h : RdV B T w rb X st) (s : Stp) (v : Value) (hv : StpV T w rb v s) (hn : st.later.length ≤ 100000) :
    ∃ a c w', (Builtin.append_ #[60, 60] 60 #[X.la, .slice (some ⟨w.heap.size, 0, none⟩) 1 1]).run Tryz.prog (w.alloc (.cells #[.int .i64 (s.w.2.1 : Int), v] 80)) = .ok (.slice a (st.later.length + 1) c) w' ∧ w'.heap[rb]? = w.heap[rb]? ∧
      ∃ T' X', RdV B T' (w'.setCell ⟨rb, 15, none⟩ (.slice a (st.later.length + 1) c)) rb X' (st.thn s) ∧ Chg T T' w (w'.setCell ⟨rb, 15, none⟩ (.slice a (st.later.length + 1) c)) := by
  obtain ⟨i0, hi0, za, zb, zc⟩ := info_parts Tryz.infSt
  obtain ⟨a, c, w', hrun, hO, hk, hold, hown⟩ := own_appI (tS := 60) (ty := 60) Tryz.underlying60 hi0 za zb zc rfl (by decide) h.later #[.int .i64 (s.w.2.1 : Int), v] rfl (one_S _ hv.oneCell) hn (by decide) h.base (fun b hb => h.fresh hb)
  have hrb := blk_lt h.blk
  have hnr : ∀ b, X.la.ownBlock = some b → T b = 15 := h.later.2
  have hbk : w'.heap[rb]? = w.heap[rb]? := hk.block rb hrb (fun e => by have := hnr rb e; rw [h.rt] at this; cases this)
  refine ⟨a, c, w', hrun, hbk, tagV T (.slice a (st.later.length + 1) c) 15, { X with la := .slice a (st.later.length + 1) c, fl := X.fl ++ [v] }, ?_⟩
  generalize hTT : tagV T (.slice a (st.later.length + 1) c) 15 = T' at *
  have hrt : T' rb = 99 := (hold rb hrb).trans h.rt
  have hkF : Kept (fun b => X.la.ownBlock = some b ∨ b = rb) w (w'.setCell ⟨rb, 15, none⟩ (.slice a (st.later.length + 1) c)) := (hk.mono (fun _ _ e => .inl e)).setCell (fun _ => .inr rfl)
  have hF : ∀ j, j ≠ 99 → j ≠ 15 → ∀ b, X.la.ownBlock = some b ∨ b = rb → T b ≠ j := fun j h9 h8 b e => by
    rcases e with e | e
    · rw [hnr b e]; exact h8.symm
    · rw [e, h.rt]; exact h9.symm
  have hc : Chg T T' w (w'.setCell ⟨rb, 15, none⟩ (.slice a (st.later.length + 1) c)) := ⟨hkF.mono (fun b _ e => by
    rcases e with e | e
    · rw [hnr b e]; decide
    · rw [show b = rb from e, h.rt]; decide), hold⟩
  have hsz : (w'.setCell ⟨rb, 15, none⟩ (.slice a (st.later.length + 1) c)).heap.size = w'.heap.size := by simp
  have hown2 : (w'.setCell ⟨rb, 15, none⟩ (.slice a (st.later.length + 1) c)).ownsRow B 80 2 (.slice a (st.later.length + 1) c) (st.later.length + 1) _ := own_set hO.1 (fun e => by have := hO.2 rb e; rw [hrt] at this; cases this)
  have hblk : (w'.setCell ⟨rb, 15, none⟩ (.slice a (st.later.length + 1) c)).heap[rb]? = _ := heap_setCell (hbk.trans h.blk)
  refine ⟨⟨hblk, hrt, fun b hn9 => ?_, by rw [hsz]; exact Nat.le_trans h.base hk.size, h.words.keep hc, h.wf, h.rules.kept hkF (hF 1 (by decide) (by decide)) hold, h.rlen, (fun x hx => (h.rre x hx).keep hc), h.nonts.kept hkF (hF 2 (by decide) (by decide)) hold, h.prods.kept hkF (hF 4 (by decide) (by decide)) hold, h.skips.kept hkF (hF 8 (by decide) (by decide)) hold, h.terms.kept hkF (hF 9 (by decide) (by decide)) hold, h.nons.kept hkF (hF 10 (by decide) (by decide)) hold, ?_, (by show (X.fl ++ [v]).length = (st.later ++ [s]).length; rw [List.length_append, List.length_append, h.flen]; rfl), (fun x hx => by
    have hx : x ∈ (st.later ++ [s]).zip (X.fl ++ [v]) := hx
    rw [zip_snoc _ _ _ _ h.flen, List.mem_append, List.mem_singleton] at hx
    rcases hx with hx | rfl
    · exact (h.fst x hx).keep hc
    · exact hv.keep hc)⟩, hc⟩
  · rw [hsz]
    rcases hown b hn9 with h9 | h9
    · exact ⟨(h.own b h9).1, Nat.lt_of_lt_of_le (h.own b h9).2 hk.size⟩
    · exact h9
  · have e1 : ((st.later ++ [s]).zip (X.fl ++ [v])).flatMap (fun x => spV x.1 x.2) = (st.later.zip X.fl).flatMap (fun x => spV x.1 x.2) ++ [.int .i64 (s.w.2.1 : Int), v] := by rw [zip_snoc _ _ _ _ h.flen, List.flatMap_append, List.flatMap_singleton]; rfl
    have e2 : (st.later ++ [s]).length = st.later.length + 1 := by rw [List.length_append]; rfl
    refine ⟨?_, hO.2⟩
    show World.ownsRow _ _ _ _ _ (st.later ++ [s]).length (((st.later ++ [s]).zip (X.fl ++ [v])).flatMap (fun x => spV x.1 x.2))
    rw [e1, e2]
    exact hown2

end Go.Proofs.YtcledgljbmepaaaGreatDoor
namespace Go.Proofs.YtcledgljbmepaaaGreatDoor
open Go.RowKit Go.Maps Go.Sort

theorem StpV.shape {T : Nat → Nat} {w : World} {rb : Nat} {v : Value} {s : Stp} (h : StpV T w rb v s) : ∃ fn cp, v = .func fn #[] cp := by
  rcases h with ⟨_, p, q, rfl, _⟩ | ⟨_, p, q, l, rfl, _⟩ | ⟨_, l, rfl, _⟩ | ⟨_, p, q, rfl, _⟩ | ⟨_, p, l, q, rfl, _⟩ | ⟨_, p, q, l, rfl, _⟩ <;> exact ⟨_, _, rfl⟩
set_option maxRecDepth 20000 in
set_option maxHeartbeats 4000000 in
theorem thnC {B rb : Nat} {T : Nat → Nat} {w : World} {X : RX} {st : RS} (h : RdV B T w rb X st) (s : Stp) (fv : Value) (hs : StpV T w rb fv s) (hn : st.later.length ≤ 100000) :
    Calls Tryz.prog 71 #[ptr0 rb, wdA s.w, fv] w fun r w' => r = .returned (.tuple #[]) ∧ RdP B T w rb (st.thn s) w' := by
  obtain ⟨fn, cp, rfl⟩ := hs.shape
  have hB1 := al' w (boxW s.w)
  have hv1 : (w.alloc (boxW s.w)).heap[w.heap.size]? = some (boxW s.w) := heap_new w _
  obtain ⟨W, hW⟩ : ∃ x, w.alloc (boxW s.w) = x := ⟨_, rfl⟩
  rw [hW] at hB1 hv1
  have h1 := h.keep hB1
  have hs1 := hs.keep (Chg.of_below hB1)
  have hbd : Below W.heap.size W W.drew := (Below.refl _ W).drew
  obtain ⟨a, c, w5, hrun, hbk, T', X', hR, hC⟩ := (h1.keep hbd).app_later s (.func fn #[] cp) (hs1.keep (Chg.of_below hbd)) hn
  have hP : Hid (RdP B T w rb (st.thn s) (w5.setCell ⟨rb, 15, none⟩ (.slice a (st.later.length + 1) c))) := hid ⟨T', X', hR, (Chg.of_below (bl_step hB1 hbd)).trans hC⟩
  have hbl : W.drew.heap[rb]? = some (rdO X st.levels st.starts st.pl st.err) := hs_keep h1.blk hbd
  have hb5 := hbk.trans hbl
  have c5 : w5.cell? ⟨rb, 15, none⟩ = some X.la := blk_cell hb5 rfl
  have f5 : w5.frozen? ⟨rb, 15, none⟩ = false := blk_frozen hb5 15
  have cd : W.drew.cell? ⟨rb, 15, none⟩ = some X.la := blk_cell hbl rfl
  have vd := (rd3 (hs_keep hv1 hbd)).2.1
  have hsd : W.drew.heap.size = W.heap.size := rfl
  rw [hsd] at hrun
  have hwa : W.drew.alloc (.cells #[.int .i64 (s.w.2.1 : Int), .func fn #[] cp] 80) = (W.alloc (.cells #[.int .i64 (s.w.2.1 : Int), .func fn #[] cp] 80)).drew := rfl
  rw [hwa] at hrun
  have hba : Below W.drew.heap.size W.drew (W.alloc (.cells #[.int .i64 (s.w.2.1 : Int), .func fn #[] cp] 80)).drew := al' W.drew _
  have ca := keep_cell hba cd
  have va := keep_cell hba vd
  clear hba hwa hsd hb5 hbl hR hC hbk hbd hs1 h1 hB1 hs h hv1
  generalize st.later.length = n at *
  generalize st.thn s = st2 at *
  generalize X.la = la at *
  generalize s.w = H at *
  obtain ⟨hk, hp, ht⟩ := H
  dsimp only at *
  go_enter Tryz.func71, Tryz.ntmps71
  go_wp2_with fail
  apply collapse
  case h =>
    intro rest
    go_region_law ((first
      | (refine step_run (by rfl) (.tmp 10) (.tmp 15) 60 (by rfl) _ _ (by rfl) (by rfl) hrun ?_)
      | fail))
    all_goals exact rest.out
  case pf =>
    go_wp2
    go_end0
    exact ⟨rfl, hP.out⟩
set_option maxRecDepth 20000 in
set_option maxHeartbeats 4000000 in
theorem addRT {B rb : Nat} {T : Nat → Nat} {w : World} {X : RX} {st : RS} (h : RdV B T w rb X st) (x : Wd) (hn : st.skips.length ≤ 100000) :
    Calls Tryz.prog 69 #[.pointer (some ⟨rb, 8, none⟩), wdA x, .bool true] w fun r w' => r = .returned (.tuple #[]) ∧ RdP B T w rb (st.addW x true) w' := by
  have hB1 := al' w (boxW x)
  have hv1 : (w.alloc (boxW x)).heap[w.heap.size]? = some (boxW x) := heap_new w _
  obtain ⟨W, hW⟩ : ∃ y, w.alloc (boxW x) = y := ⟨_, rfl⟩
  rw [hW] at hB1 hv1
  have h1 := h.keep hB1
  have hbd : Below W.heap.size W W.drew := (Below.refl _ W).drew
  obtain ⟨a, c, w5, hrun, hbk, T', X', hR, hC⟩ := (h1.keep hbd).app_skips x hn
  have hP : Hid (RdP B T w rb (st.addW x true) (w5.setCell ⟨rb, 8, none⟩ (.slice a (st.skips.length + 1) c))) := hid ⟨T', X', hR, (Chg.of_below (bl_step hB1 hbd)).trans hC⟩
  have hbl : W.drew.heap[rb]? = some (rdO X st.levels st.starts st.pl st.err) := hs_keep h1.blk hbd
  have hb5 := hbk.trans hbl
  have c5 : w5.cell? ⟨rb, 8, none⟩ = some X.sk := blk_cell hb5 rfl
  have f5 : w5.frozen? ⟨rb, 8, none⟩ = false := blk_frozen hb5 8
  have cd : W.drew.cell? ⟨rb, 8, none⟩ = some X.sk := blk_cell hbl rfl
  obtain ⟨v0, v1, v2, -, -⟩ := rd3 (hs_keep hv1 hbd)
  have hsd : W.drew.heap.size = W.heap.size := rfl
  rw [hsd] at hrun
  have hwa : W.drew.alloc (boxW x) = (W.alloc (boxW x)).drew := rfl
  rw [hwa] at hrun
  have hba : Below W.drew.heap.size W.drew (W.alloc (boxW x)).drew := al' W.drew _
  have ca := keep_cell hba cd
  have a0 := keep_cell hba v0
  have a1 := keep_cell hba v1
  have a2 := keep_cell hba v2
  clear hba hwa hsd hb5 hbl hR hC hbk hbd h1 hB1 h hv1
  generalize st.skips.length = n at *
  generalize st.addW x true = st2 at *
  generalize X.sk = la at *
  obtain ⟨hk, hp, ht⟩ := x
  dsimp only at *
  go_enter Tryz.func69, Tryz.ntmps69
  go_wp2_with fail
  apply collapse
  case h =>
    intro rest
    go_region_law ((first
      | (refine step_run (by rfl) (.tmp 11) (.tmp 13) 40 (by rfl) _ _ (by rfl) (by rfl) hrun ?_)
      | fail))
    all_goals exact rest.out
  case pf =>
    go_wp2
    go_end0
    exact ⟨rfl, hP.out⟩
set_option maxRecDepth 20000 in
set_option maxHeartbeats 4000000 in
theorem addRF {B rb : Nat} {T : Nat → Nat} {w : World} {X : RX} {st : RS} (h : RdV B T w rb X st) (x : Wd) (hn : st.terms.length ≤ 100000) :
    Calls Tryz.prog 69 #[.pointer (some ⟨rb, 8, none⟩), wdA x, .bool false] w fun r w' => r = .returned (.tuple #[]) ∧ RdP B T w rb (st.addW x false) w' := by
  have hB1 := al' w (boxW x)
  have hv1 : (w.alloc (boxW x)).heap[w.heap.size]? = some (boxW x) := heap_new w _
  obtain ⟨W, hW⟩ : ∃ y, w.alloc (boxW x) = y := ⟨_, rfl⟩
  rw [hW] at hB1 hv1
  have h1 := h.keep hB1
  have hbd : Below W.heap.size W W.drew := (Below.refl _ W).drew
  obtain ⟨a, c, w5, hrun, hbk, T', X', hR, hC⟩ := (h1.keep hbd).app_terms x hn
  have hP : Hid (RdP B T w rb (st.addW x false) (w5.setCell ⟨rb, 9, none⟩ (.slice a (st.terms.length + 1) c))) := hid ⟨T', X', hR, (Chg.of_below (bl_step hB1 hbd)).trans hC⟩
  have hbl : W.drew.heap[rb]? = some (rdO X st.levels st.starts st.pl st.err) := hs_keep h1.blk hbd
  have hb5 := hbk.trans hbl
  have c5 : w5.cell? ⟨rb, 9, none⟩ = some X.te := blk_cell hb5 rfl
  have f5 : w5.frozen? ⟨rb, 9, none⟩ = false := blk_frozen hb5 9
  have cd : W.drew.cell? ⟨rb, 9, none⟩ = some X.te := blk_cell hbl rfl
  obtain ⟨v0, v1, v2, -, -⟩ := rd3 (hs_keep hv1 hbd)
  have hsd : W.drew.heap.size = W.heap.size := rfl
  rw [hsd] at hrun
  have hwa : W.drew.alloc (boxW x) = (W.alloc (boxW x)).drew := rfl
  rw [hwa] at hrun
  have hba : Below W.drew.heap.size W.drew (W.alloc (boxW x)).drew := al' W.drew _
  have ca := keep_cell hba cd
  have a0 := keep_cell hba v0
  have a1 := keep_cell hba v1
  have a2 := keep_cell hba v2
  clear hba hwa hsd hb5 hbl hR hC hbk hbd h1 hB1 h hv1
  generalize st.terms.length = n at *
  generalize st.addW x false = st2 at *
  generalize X.te = la at *
  obtain ⟨hk, hp, ht⟩ := x
  dsimp only at *
  go_enter Tryz.func69, Tryz.ntmps69
  go_wp2_with fail
  apply collapse
  case h =>
    intro rest
    go_region_law ((first
      | (refine step_run (by rfl) (.tmp 21) (.tmp 23) 40 (by rfl) _ _ (by rfl) (by rfl) hrun ?_)
      | fail))
    all_goals exact rest.out
  case pf =>
    go_wp2
    go_end0
    exact ⟨rfl, hP.out⟩
set_option maxRecDepth 20000 in
set_option maxHeartbeats 4000000 in
theorem addNC {B rb : Nat} {T : Nat → Nat} {w : World} {X : RX} {st : RS} (h : RdV B T w rb X st) (x : Wd) (hn : st.nons.length ≤ 100000) :
    Calls Tryz.prog 78 #[.pointer (some ⟨rb, 8, none⟩), wdA x] w fun r w' => r = .returned (.tuple #[]) ∧ RdP B T w rb (st.addO x) w' := by
  have hB1 := al' w (boxW x)
  have hv1 : (w.alloc (boxW x)).heap[w.heap.size]? = some (boxW x) := heap_new w _
  obtain ⟨W, hW⟩ : ∃ y, w.alloc (boxW x) = y := ⟨_, rfl⟩
  rw [hW] at hB1 hv1
  have h1 := h.keep hB1
  have hbd : Below W.heap.size W W.drew := (Below.refl _ W).drew
  obtain ⟨a, c, w5, hrun, hbk, T', X', hR, hC⟩ := (h1.keep hbd).app_nons x hn
  have hP : Hid (RdP B T w rb (st.addO x) (w5.setCell ⟨rb, 10, none⟩ (.slice a (st.nons.length + 1) c))) := hid ⟨T', X', hR, (Chg.of_below (bl_step hB1 hbd)).trans hC⟩
  have hbl : W.drew.heap[rb]? = some (rdO X st.levels st.starts st.pl st.err) := hs_keep h1.blk hbd
  have hb5 := hbk.trans hbl
  have c5 : w5.cell? ⟨rb, 10, none⟩ = some X.no := blk_cell hb5 rfl
  have f5 : w5.frozen? ⟨rb, 10, none⟩ = false := blk_frozen hb5 10
  have cd : W.drew.cell? ⟨rb, 10, none⟩ = some X.no := blk_cell hbl rfl
  obtain ⟨v0, v1, v2, -, -⟩ := rd3 (hs_keep hv1 hbd)
  have hsd : W.drew.heap.size = W.heap.size := rfl
  rw [hsd] at hrun
  have hwa : W.drew.alloc (boxW x) = (W.alloc (boxW x)).drew := rfl
  rw [hwa] at hrun
  have hba : Below W.drew.heap.size W.drew (W.alloc (boxW x)).drew := al' W.drew _
  have ca := keep_cell hba cd
  have a0 := keep_cell hba v0
  have a1 := keep_cell hba v1
  have a2 := keep_cell hba v2
  clear hba hwa hsd hb5 hbl hR hC hbk hbd h1 hB1 h hv1
  generalize st.nons.length = n at *
  generalize st.addO x = st2 at *
  generalize X.no = la at *
  obtain ⟨hk, hp, ht⟩ := x
  dsimp only at *
  go_enter Tryz.func78, Tryz.ntmps78
  go_wp2_with fail
  apply collapse
  case h =>
    intro rest
    go_region_law ((first
      | (refine step_run (by rfl) (.tmp 8) (.tmp 10) 40 (by rfl) _ _ (by rfl) (by rfl) hrun ?_)
      | fail))
    all_goals exact rest.out
  case pf =>
    go_wp2
    go_end0
    exact ⟨rfl, hP.out⟩
set_option maxRecDepth 20000 in
theorem addRC {B rb : Nat} {T : Nat → Nat} {w : World} {X : RX} {st : RS} (h : RdV B T w rb X st) (x : Wd) (sk : Bool) (h1 : st.skips.length ≤ 100000) (h2 : st.terms.length ≤ 100000) :
    Calls Tryz.prog 69 #[.pointer (some ⟨rb, 8, none⟩), wdA x, .bool sk] w fun r w' => r = .returned (.tuple #[]) ∧ RdP B T w rb (st.addW x sk) w' := by
  cases sk
  · exact addRF h x h2
  · exact addRT h x h1

end Go.Proofs.YtcledgljbmepaaaGreatDoor
namespace Go.Proofs.YtcledgljbmepaaaGreatDoor
open Go.RowKit Go.Maps Go.Sort

theorem RdV.im {B rb b : Nat} {T : Nat → Nat} {w u : World} {X : RX} {st : RS} {o : Obj} (h : RdV B T w rb X st) (hb : w.heap.size ≤ b) (hu : u.heap[b]? = some o) : Im T u b o := ⟨h.fresh hb, hu⟩
set_option maxRecDepth 20000 in
set_option maxHeartbeats 4000000 in
theorem onceC {B rb : Nat} {T : Nat → Nat} {w : World} {X : RX} {st : RS} (h : RdV B T w rb X st) (x : Wd) (hn : st.later.length ≤ 100000) :
    Calls Tryz.prog 70 #[ptr0 rb, wdA x] w fun r w' => r = .returned (.tuple #[]) ∧ RdP B T w rb (st.once x) w' := by
  have hmf : ∀ (fn : Fn) (first cap : Array Value) (w : World), (Instr.makeFunc fn first cap).run Tryz.prog w = .ok (.func fn first cap) w := fun _ _ _ _ => rfl
  obtain ⟨W1, hW1⟩ : ∃ y, w.alloc (boxR rb) = y := ⟨_, rfl⟩
  have hz1 : W1.heap.size = w.heap.size + 1 := by rw [← hW1]; exact World.size_alloc ..
  have hB1 : Below w.heap.size w W1 := by rw [← hW1]; exact al' w _
  have hp1 : W1.heap[w.heap.size]? = some (boxR rb) := by rw [← hW1]; exact heap_new w _
  obtain ⟨W2, hW2⟩ : ∃ y, W1.alloc (boxW x) = y := ⟨_, rfl⟩
  have hB2 : Below W1.heap.size W1 W2 := by rw [← hW2]; exact al' W1 _
  have hq2 : W2.heap[w.heap.size + 1]? = some (boxW x) := by rw [← hW2, ← hz1]; exact heap_new W1 _
  have hB := bl_step hB1 hB2
  have hp2 := hs_keep hp1 hB2
  have h2 := h.keep hB
  have G := thnC h2 ⟨1, x, 0, 0⟩ (.func (.func 91) #[] #[ptr0 w.heap.size, ptr0 (w.heap.size + 1)]) (.inl ⟨rfl, _, _, rfl, h.im (Nat.le_refl _) hp2, h.im (by omega) hq2⟩) hn
  have G := hid (G.mono (R' := fun r w' => r = .returned (.tuple #[]) ∧ RdP B T w rb (st.once x) w') (fun r w' ⟨e, T', X', hr, hc⟩ => ⟨e, T', X', hr, (Chg.of_below hB).trans hc⟩))
  have y0 : W2.cell? ⟨w.heap.size, 0, none⟩ = some (ptr0 rb) := blk_cell hp2 rfl
  obtain ⟨v0, v1, v2, -, -⟩ := rd3 hq2
  clear h2 hB hB1 hB2 hp1 hp2 hq2 h
  generalize st.once x = st2 at *
  obtain ⟨hk, hp, ht⟩ := x
  try dsimp only at *
  go_enter Tryz.func70, Tryz.ntmps70
  go_wp2_with (go_at_call 71; refine G.out.mono ?_; clear G; rintro e w3 ⟨rfl, hP⟩; have hP := hid hP)
  go_end0
  exact ⟨rfl, hP.out⟩
set_option maxRecDepth 20000 in
set_option maxHeartbeats 4000000 in
theorem lvdC {B rb : Nat} {T : Nat → Nat} {w : World} {X : RX} {st : RS} (h : RdV B T w rb X st) (p s : Nat) (hn : st.later.length ≤ 100000) :
    Calls Tryz.prog 76 #[ptr0 rb, .agg #[.int .i64 (p : Int), .int .i64 (s : Int)]] w fun r w' => r = .returned (.tuple #[]) ∧ RdP B T w rb (st.lvd p s) w' := by
  have hmf : ∀ (fn : Fn) (first cap : Array Value) (w : World), (Instr.makeFunc fn first cap).run Tryz.prog w = .ok (.func fn first cap) w := fun _ _ _ _ => rfl
  obtain ⟨W1, hW1⟩ : ∃ y, w.alloc (boxR rb) = y := ⟨_, rfl⟩
  have hz1 : W1.heap.size = w.heap.size + 1 := by rw [← hW1]; exact World.size_alloc ..
  have hB1 : Below w.heap.size w W1 := by rw [← hW1]; exact al' w _
  have hp1 : W1.heap[w.heap.size]? = some (boxR rb) := by rw [← hW1]; exact heap_new w _
  obtain ⟨W2, hW2⟩ : ∃ y, W1.alloc (boxL p s) = y := ⟨_, rfl⟩
  have hB2 : Below W1.heap.size W1 W2 := by rw [← hW2]; exact al' W1 _
  have hq2 : W2.heap[w.heap.size + 1]? = some (boxL p s) := by rw [← hW2, ← hz1]; exact heap_new W1 _
  have hB := bl_step hB1 hB2
  have hp2 := hs_keep hp1 hB2
  have h2 := h.keep hB
  have G1 := hid (tkNC h2)
  have G2 : Hid (∀ u, (∃ wv, Mov B T W2 rb X st.tkN u wv) → u.cell? ⟨w.heap.size, 0, none⟩ = some (ptr0 rb) ∧ (u.alloc (boxW st.hd)).cell? ⟨w.heap.size, 0, none⟩ = some (ptr0 rb) ∧ Calls Tryz.prog 71 #[ptr0 rb, wdA st.hd, .func (.func 94) #[] #[ptr0 w.heap.size, ptr0 u.heap.size, ptr0 (w.heap.size + 1)]] (u.alloc (boxW st.hd)) fun r w' => r = .returned (.tuple #[]) ∧ RdP B T w rb (st.lvd p s) w') := hid (fun u hu => by
    obtain ⟨wv, hu⟩ := hu
    have hal := al' u (boxW st.hd)
    have hc := hu.chg.trans (Chg.of_below (T := T) hal)
    have iR0 := (h.im (Nat.le_refl _) hp2).keep hu.chg
    have iR := (h.im (Nat.le_refl _) hp2).keep hc
    have iL := (h.im (by omega) hq2).keep hc
    have iW : Im T (u.alloc (boxW st.hd)) u.heap.size (boxW st.hd) := hu.rd.im (Nat.le_refl _) (heap_new u _)
    have hl : st.tkN.later.length ≤ 100000 := by
      have : st.tkN.later = st.later := by unfold RS.tkN RS.take RS.give; split <;> (try split) <;> rfl
      rw [this]; exact hn
    refine ⟨iR0.cell rfl, iR.cell rfl, (thnC (hu.rd.keep hal) ⟨2, st.hd, p, s⟩ _ (.inr (.inl ⟨rfl, _, _, _, rfl, iR, iW, iL⟩)) hl).mono ?_⟩
    rintro r w' ⟨e, T', X', hr, hc'⟩
    exact ⟨e, T', X', hr, ((Chg.of_below hB).trans hc).trans hc'⟩)
  have y0 : W2.cell? ⟨w.heap.size, 0, none⟩ = some (ptr0 rb) := blk_cell hp2 rfl
  clear h2 hB hB1 hB2 hp1 hp2 hq2 h
  generalize st.tkN = st1 at *
  generalize st.lvd p s = st2 at *
  generalize st.hd = H at *
  obtain ⟨hk, hp, ht⟩ := H
  try dsimp only at *
  go_enter Tryz.func76, Tryz.ntmps76
  go_wp2_with (first
    | (go_at_call 66; refine G1.out.mono ?_; clear G1; rintro e u ⟨rfl, hu⟩; obtain ⟨z0, z1, G3⟩ := G2.out u hu; clear G2 hu; have G3 := hid G3; have z2 := heap_new u (boxW (hk, hp, ht)); obtain ⟨v0, v1, v2, -, -⟩ := rd3 z2; clear z2; obtain ⟨W4, hW4⟩ : ∃ y, u.alloc (boxW (hk, hp, ht)) = y := ⟨_, rfl⟩; rw [hW4] at z1 G3 v0 v1 v2; try dsimp only at hW4 v0 v1 v2)
    | (go_at_call 71; refine G3.out.mono ?_; clear G3; rintro e w3 ⟨rfl, hP⟩; have hP := hid hP))
  go_end0
  exact ⟨rfl, hP.out⟩
set_option maxRecDepth 20000 in
set_option maxHeartbeats 4000000 in
theorem symbC {B rb : Nat} {T : Nat → Nat} {w : World} {X : RX} {st : RS} (h : RdV B T w rb X st) (pr : Nat) (hn : st.later.length ≤ 100000) :
    Calls Tryz.prog 97 #[ptr0 rb, .int .i64 (pr : Int)] w fun r w' => r = .returned (.tuple #[]) ∧ RdP B T w rb (st.symb pr) w' := by
  have hmf : ∀ (fn : Fn) (first cap : Array Value) (w : World), (Instr.makeFunc fn first cap).run Tryz.prog w = .ok (.func fn first cap) w := fun _ _ _ _ => rfl
  obtain ⟨W1, hW1⟩ : ∃ y, w.alloc (boxR rb) = y := ⟨_, rfl⟩
  have hz1 : W1.heap.size = w.heap.size + 1 := by rw [← hW1]; exact World.size_alloc ..
  have hB1 : Below w.heap.size w W1 := by rw [← hW1]; exact al' w _
  have hp1 : W1.heap[w.heap.size]? = some (boxR rb) := by rw [← hW1]; exact heap_new w _
  obtain ⟨W2, hW2⟩ : ∃ y, W1.alloc (boxN pr) = y := ⟨_, rfl⟩
  have hB2 : Below W1.heap.size W1 W2 := by rw [← hW2]; exact al' W1 _
  have hq2 : W2.heap[w.heap.size + 1]? = some (boxN pr) := by rw [← hW2, ← hz1]; exact heap_new W1 _
  have hB := bl_step hB1 hB2
  have hp2 := hs_keep hp1 hB2
  have h2 := h.keep hB
  have G1 := hid (tkNC h2)
  have G2 : Hid (∀ u, (∃ wv, Mov B T W2 rb X st.tkN u wv) → u.cell? ⟨w.heap.size, 0, none⟩ = some (ptr0 rb) ∧ (u.alloc (boxW st.hd)).cell? ⟨w.heap.size, 0, none⟩ = some (ptr0 rb) ∧ Calls Tryz.prog 71 #[ptr0 rb, wdA st.hd, .func (.func 108) #[] #[ptr0 w.heap.size, ptr0 (w.heap.size + 1), ptr0 u.heap.size]] (u.alloc (boxW st.hd)) fun r w' => r = .returned (.tuple #[]) ∧ RdP B T w rb (st.symb pr) w') := hid (fun u hu => by
    obtain ⟨wv, hu⟩ := hu
    have hal := al' u (boxW st.hd)
    have hc := hu.chg.trans (Chg.of_below (T := T) hal)
    have iR0 := (h.im (Nat.le_refl _) hp2).keep hu.chg
    have iR := (h.im (Nat.le_refl _) hp2).keep hc
    have iL := (h.im (by omega) hq2).keep hc
    have iW : Im T (u.alloc (boxW st.hd)) u.heap.size (boxW st.hd) := hu.rd.im (Nat.le_refl _) (heap_new u _)
    have hl : st.tkN.later.length ≤ 100000 := by
      have : st.tkN.later = st.later := by unfold RS.tkN RS.take RS.give; split <;> (try split) <;> rfl
      rw [this]; exact hn
    refine ⟨iR0.cell rfl, iR.cell rfl, (thnC (hu.rd.keep hal) ⟨5, st.hd, pr, 0⟩ _ (.inr (.inr (.inr (.inr (.inl ⟨rfl, _, _, _, rfl, iR, iW, iL⟩))))) hl).mono ?_⟩
    rintro r w' ⟨e, T', X', hr, hc'⟩
    exact ⟨e, T', X', hr, ((Chg.of_below hB).trans hc).trans hc'⟩)
  have y0 : W2.cell? ⟨w.heap.size, 0, none⟩ = some (ptr0 rb) := blk_cell hp2 rfl
  clear h2 hB hB1 hB2 hp1 hp2 hq2 h
  generalize st.tkN = st1 at *
  generalize st.symb pr = st2 at *
  generalize st.hd = H at *
  obtain ⟨hk, hp, ht⟩ := H
  try dsimp only at *
  go_enter Tryz.func97, Tryz.ntmps97
  go_wp2_with (first
    | (go_at_call 66; refine G1.out.mono ?_; clear G1; rintro e u ⟨rfl, hu⟩; obtain ⟨z0, z1, G3⟩ := G2.out u hu; clear G2 hu; have G3 := hid G3; have z2 := heap_new u (boxW (hk, hp, ht)); obtain ⟨v0, v1, v2, -, -⟩ := rd3 z2; clear z2; obtain ⟨W4, hW4⟩ : ∃ y, u.alloc (boxW (hk, hp, ht)) = y := ⟨_, rfl⟩; rw [hW4] at z1 G3 v0 v1 v2; try dsimp only at hW4 v0 v1 v2)
    | (go_at_call 71; refine G3.out.mono ?_; clear G3; rintro e w3 ⟨rfl, hP⟩; have hP := hid hP))
  go_end0
  exact ⟨rfl, hP.out⟩
set_option maxRecDepth 20000 in
set_option maxHeartbeats 4000000 in
theorem precC {B rb : Nat} {T : Nat → Nat} {w : World} {X : RX} {st : RS} (h : RdV B T w rb X st) (pr : Nat) (hn : st.later.length ≤ 100000) :
    Calls Tryz.prog 98 #[ptr0 rb, .int .i64 (pr : Int)] w fun r w' => r = .returned (.tuple #[]) ∧ RdP B T w rb (st.prec pr) w' := by
  have hmf : ∀ (fn : Fn) (first cap : Array Value) (w : World), (Instr.makeFunc fn first cap).run Tryz.prog w = .ok (.func fn first cap) w := fun _ _ _ _ => rfl
  obtain ⟨W1, hW1⟩ : ∃ y, w.alloc (boxR rb) = y := ⟨_, rfl⟩
  have hz1 : W1.heap.size = w.heap.size + 1 := by rw [← hW1]; exact World.size_alloc ..
  have hB1 : Below w.heap.size w W1 := by rw [← hW1]; exact al' w _
  have hp1 : W1.heap[w.heap.size]? = some (boxR rb) := by rw [← hW1]; exact heap_new w _
  obtain ⟨W2, hW2⟩ : ∃ y, W1.alloc (boxN pr) = y := ⟨_, rfl⟩
  have hB2 : Below W1.heap.size W1 W2 := by rw [← hW2]; exact al' W1 _
  have hq2 : W2.heap[w.heap.size + 1]? = some (boxN pr) := by rw [← hW2, ← hz1]; exact heap_new W1 _
  have hB := bl_step hB1 hB2
  have hp2 := hs_keep hp1 hB2
  have h2 := h.keep hB
  have G1 := hid (tkNC h2)
  have G2 : Hid (∀ u, (∃ wv, Mov B T W2 rb X st.tkN u wv) → u.cell? ⟨w.heap.size, 0, none⟩ = some (ptr0 rb) ∧ (u.alloc (boxW st.hd)).cell? ⟨w.heap.size, 0, none⟩ = some (ptr0 rb) ∧ Calls Tryz.prog 71 #[ptr0 rb, wdA st.hd, .func (.func 109) #[] #[ptr0 w.heap.size, ptr0 u.heap.size, ptr0 (w.heap.size + 1)]] (u.alloc (boxW st.hd)) fun r w' => r = .returned (.tuple #[]) ∧ RdP B T w rb (st.prec pr) w') := hid (fun u hu => by
    obtain ⟨wv, hu⟩ := hu
    have hal := al' u (boxW st.hd)
    have hc := hu.chg.trans (Chg.of_below (T := T) hal)
    have iR0 := (h.im (Nat.le_refl _) hp2).keep hu.chg
    have iR := (h.im (Nat.le_refl _) hp2).keep hc
    have iL := (h.im (by omega) hq2).keep hc
    have iW : Im T (u.alloc (boxW st.hd)) u.heap.size (boxW st.hd) := hu.rd.im (Nat.le_refl _) (heap_new u _)
    have hl : st.tkN.later.length ≤ 100000 := by
      have : st.tkN.later = st.later := by unfold RS.tkN RS.take RS.give; split <;> (try split) <;> rfl
      rw [this]; exact hn
    refine ⟨iR0.cell rfl, iR.cell rfl, (thnC (hu.rd.keep hal) ⟨6, st.hd, pr, 0⟩ _ (.inr (.inr (.inr (.inr (.inr ⟨rfl, _, _, _, rfl, iR, iW, iL⟩))))) hl).mono ?_⟩
    rintro r w' ⟨e, T', X', hr, hc'⟩
    exact ⟨e, T', X', hr, ((Chg.of_below hB).trans hc).trans hc'⟩)
  have y0 : W2.cell? ⟨w.heap.size, 0, none⟩ = some (ptr0 rb) := blk_cell hp2 rfl
  clear h2 hB hB1 hB2 hp1 hp2 hq2 h
  generalize st.tkN = st1 at *
  generalize st.prec pr = st2 at *
  generalize st.hd = H at *
  obtain ⟨hk, hp, ht⟩ := H
  try dsimp only at *
  go_enter Tryz.func98, Tryz.ntmps98
  go_wp2_with (first
    | (go_at_call 66; refine G1.out.mono ?_; clear G1; rintro e u ⟨rfl, hu⟩; obtain ⟨z0, z1, G3⟩ := G2.out u hu; clear G2 hu; have G3 := hid G3; have z2 := heap_new u (boxW (hk, hp, ht)); obtain ⟨v0, v1, v2, -, -⟩ := rd3 z2; clear z2; obtain ⟨W4, hW4⟩ : ∃ y, u.alloc (boxW (hk, hp, ht)) = y := ⟨_, rfl⟩; rw [hW4] at z1 G3 v0 v1 v2; try dsimp only at hW4 v0 v1 v2)
    | (go_at_call 71; refine G3.out.mono ?_; clear G3; rintro e w3 ⟨rfl, hP⟩; have hP := hid hP))
  go_end0
  exact ⟨rfl, hP.out⟩

end Go.Proofs.YtcledgljbmepaaaGreatDoor
namespace Go.Proofs.YtcledgljbmepaaaGreatDoor
open Go.RowKit Go.Maps Go.Sort

theorem RS.tkN_later (st : RS) : st.tkN.later = st.later := by unfold RS.tkN RS.take RS.give; split <;> (try split) <;> rfl
theorem RS.tkS_later (st : RS) (t : Txt) : (st.tkS t).later = st.later := by unfold RS.tkS RS.take RS.give; split <;> (try split) <;> rfl
set_option maxRecDepth 20000 in
set_option maxHeartbeats 8000000 in
theorem startC {B rb : Nat} {T : Nat → Nat} {w : World} {X : RX} {st : RS} (h : RdV B T w rb X st) (hm : st.hd.1 ≠ 0) (hn : st.later.length ≤ 99990) (hs : st.starts ≤ 100000) :
    Calls Tryz.prog 46 #[ptr0 rb] w fun r w' => r = .returned (.tuple #[]) ∧ RdP B T w rb st.start w' := by
  have hmf : ∀ (fn : Fn) (first cap : Array Value) (w : World), (Instr.makeFunc fn first cap).run Tryz.prog w = .ok (.func fn first cap) w := fun _ _ _ _ => rfl
  obtain ⟨W1, hW1⟩ : ∃ y, w.alloc (boxR rb) = y := ⟨_, rfl⟩
  have hz1 : W1.heap.size = w.heap.size + 1 := by rw [← hW1]; exact World.size_alloc ..
  have hB1 : Below w.heap.size w W1 := by rw [← hW1]; exact al' w _
  have hp1 : W1.heap[w.heap.size]? = some (boxR rb) := by rw [← hW1]; exact heap_new w _
  have h1 := h.keep hB1
  obtain ⟨W2, hW2⟩ : ∃ y, W1.setCell ⟨rb, 7, none⟩ (.int .i64 ((st.starts : Int) + 1)) = y := ⟨_, rfl⟩
  have hk2 : Kept (oneBlk rb) W1 W2 := by rw [← hW2]; exact (Kept.refl (oneBlk rb) W1).setCell (a := ⟨rb, 7, none⟩) (fun _ => rfl)
  have hb2 : W2.heap[rb]? = some (rdO X st.levels (st.starts + 1) st.pl st.err) := by rw [← hW2]; exact heap_setCell h1.blk
  have h2 : RdV B T W2 rb X st.st1 := h1.put (hk2.mono (fun _ _ e => .inl e)) hb2 (h1.ws1 hk2) h1.wf rfl rfl rfl rfl rfl rfl rfl id rfl rfl rfl rfl rfl rfl rfl rfl rfl
  have c2 := (Chg.of_below (T := T) hB1).trans (h1.chg1 hk2)
  have hz2 : W2.heap.size = w.heap.size + 1 := by rw [← hW2]; simpa using hz1
  have i1 : Im T W1 w.heap.size (boxR rb) := h.im (Nat.le_refl _) hp1
  have i2 := i1.keep (h1.chg1 hk2)
  obtain ⟨bb, hbb⟩ : ∃ b : Bool, decide (1 < st.starts + 1) = b := ⟨_, rfl⟩
  obtain ⟨W3, hW3⟩ : ∃ y, W2.alloc (boxB bb) = y := ⟨_, rfl⟩
  have hB3 : Below W2.heap.size W2 W3 := by rw [← hW3]; exact al' W2 _
  have hq3 : W3.heap[W2.heap.size]? = some (boxB bb) := by rw [← hW3]; exact heap_new W2 _
  have h3 := (h2.keep hB3).keep ((Below.refl _ W3).drew)
  have c3 := c2.trans (Chg.of_below (T := T) (bl_step hB3 ((Below.refl _ W3).drew)))
  have i3 := i2.keep (Chg.of_below (T := T) hB3)
  have i3d := i3.keep (Chg.of_below (T := T) ((Below.refl _ W3).drew))
  have j3 : Im T W3.drew W2.heap.size (boxB bb) := ⟨h.fresh (by omega), hs_keep hq3 ((Below.refl _ W3).drew)⟩
  have hsa : (decide ((if 1 < st.starts + 1 then 1 else 0 : Nat) ≠ 0)) = bb := by
    rw [← hbb]
    split
    · rename_i h9; rw [decide_eq_true h9]; rfl
    · rename_i h9; rw [decide_eq_false h9]; rfl
  have GT : Hid (Calls Tryz.prog 65 #[ptr0 rb, .bool true] W3.drew fun r w' => r = .returned (wdA st.hd) ∧ ∃ wv, Mov B T W3.drew rb X (st.st1.take true) w' wv) := hid (takeC h3 true (fun _ => hm))
  have GA : Hid (∀ u, (∃ wv, Mov B T W3.drew rb X (st.st1.take true) u wv) → u.cell? ⟨w.heap.size, 0, none⟩ = some (ptr0 rb) ∧ Calls Tryz.prog 71 #[ptr0 rb, wdA st.hd, .func (.func 72) #[] #[ptr0 W2.heap.size]] u fun r w' => r = .returned (.tuple #[]) ∧ ∃ T' X', RdV B T' w' rb X' ((st.st1.take true).thn ⟨3, st.hd, if 1 < st.starts + 1 then 1 else 0, 0⟩) ∧ Chg T T' w w' ∧ w'.cell? ⟨w.heap.size, 0, none⟩ = some (ptr0 rb) ∧ Im T' w' w.heap.size (boxR rb)) := hid (fun u hu => by
    obtain ⟨wv, hu⟩ := hu
    have iu := i3d.keep hu.chg
    have ju := j3.keep hu.chg
    refine ⟨iu.cell rfl, (thnC hu.rd ⟨3, st.hd, if 1 < st.starts + 1 then 1 else 0, 0⟩ _ (.inr (.inr (.inl ⟨rfl, _, rfl, by rw [hsa]; exact ju⟩))) (by show st.later.length ≤ _; omega)).mono ?_⟩
    rintro r w' ⟨e, T', X', hr, hc'⟩
    have i9 := iu.keep hc'
    exact ⟨e, T', X', hr, (c3.trans hu.chg).trans hc', i9.cell rfl, i9⟩)
  have y1 : W1.cell? ⟨w.heap.size, 0, none⟩ = some (ptr0 rb) := i1.cell rfl
  have y2 : W2.cell? ⟨w.heap.size, 0, none⟩ = some (ptr0 rb) := i2.cell rfl
  have y3 : W3.cell? ⟨w.heap.size, 0, none⟩ = some (ptr0 rb) := i3.cell rfl
  have y3d : W3.drew.cell? ⟨w.heap.size, 0, none⟩ = some (ptr0 rb) := i3d.cell rfl
  have x7 : W1.cell? ⟨rb, 7, none⟩ = some (.int .i64 (st.starts : Int)) := blk_cell h1.blk rfl
  have f7 : W1.frozen? ⟨rb, 7, none⟩ = false := blk_frozen h1.blk 7
  have x7b : W2.cell? ⟨rb, 7, none⟩ = some (.int .i64 ((st.starts : Int) + 1)) := blk_cell hb2 rfl
  have hfin : Hid (st.start = ((((st.st1.take true).thn ⟨3, st.hd, if 1 < st.starts + 1 then 1 else 0, 0⟩).tkN.tkS [59]).thn ⟨4, ((st.st1.take true).thn ⟨3, st.hd, if 1 < st.starts + 1 then 1 else 0, 0⟩).hd, 0, 0⟩)) := hid rfl
  have hln : ((st.st1.take true).thn ⟨3, st.hd, if 1 < st.starts + 1 then 1 else 0, 0⟩).later.length ≤ 99999 := by
    show (st.later ++ [_]).length ≤ _
    rw [List.length_append, List.length_singleton]; omega
  have hstz : (st.starts : Int) ≤ 100000 := by omega
  have hbz : decide ((1 : Int) < (st.starts : Int) + 1) = bb := by
    rw [← hbb, Bool.eq_iff_iff, decide_eq_true_iff, decide_eq_true_iff]; omega
  clear hsa hbb i1 i2 i3 i3d j3 h3 h2 h1 hB3 hq3 hb2 hk2 hp1 hB1 hz1 hz2 c2 c3 h hn hs
  rw [hfin.out]
  clear hfin
  generalize (st.st1.take true).thn ⟨3, st.hd, if 1 < st.starts + 1 then 1 else 0, 0⟩ = sA at *
  generalize st.st1.take true = sB at *
  generalize st.starts = ns at *
  generalize hH : st.hd = H at *
  obtain ⟨hk, hp, ht⟩ := H
  try dsimp only at *
  clear hH hm
  have HL : Hid (∀ T1 X1 v, RdV B T1 v rb X1 sA → Chg T T1 w v → Im T1 v w.heap.size (boxR rb) → Calls Tryz.prog 66 #[ptr0 rb] v fun r u => r = .returned (wdA sA.hd) ∧ u.cell? ⟨w.heap.size, 0, none⟩ = some (ptr0 rb) ∧ ∃ wv, RdV B T1 u rb { X1 with wv := wv } sA.tkN ∧ Chg T T1 w u ∧ Im T1 u w.heap.size (boxR rb)) := hid (fun T1 X1 v hr hc iv => (tkNC hr).mono (fun r u ⟨e, wv, hM⟩ => ⟨e, (iv.keep hM.chg).cell rfl, wv, hM.rd, hc.trans hM.chg, iv.keep hM.chg⟩))
  have HS : Hid (∀ T1 X1 v, RdV B T1 v rb X1 sA.tkN → Chg T T1 w v → Im T1 v w.heap.size (boxR rb) → (v.alloc (boxW sA.hd)).cell? ⟨w.heap.size, 0, none⟩ = some (ptr0 rb) ∧ Calls Tryz.prog 68 #[ptr0 rb, .string ⟨#[59]⟩] (v.alloc (boxW sA.hd)) fun r u => r = .returned (.tuple #[]) ∧ (u.cell? ⟨w.heap.size, 0, none⟩ = some (ptr0 rb) ∧ u.heap[v.heap.size]? = some (boxW sA.hd)) ∧ Calls Tryz.prog 71 #[ptr0 rb, wdA sA.hd, .func (.func 73) #[] #[ptr0 w.heap.size, ptr0 v.heap.size]] u fun r w' => r = .returned (.tuple #[]) ∧ RdP B T w rb ((sA.tkN.tkS [59]).thn ⟨4, sA.hd, 0, 0⟩) w') := hid (fun T1 X1 v hr hc iv => by
    have hal := al' v (boxW sA.hd)
    have i5 := iv.keep (Chg.of_below (T := T1) hal)
    refine ⟨i5.cell rfl, (tkSC (hr.keep hal) [59]).mono ?_⟩
    rintro r u ⟨e, wv, hM⟩
    have i6 := i5.keep hM.chg
    have j6 : Im T1 u v.heap.size (boxW sA.hd) := (Im.keep (T := T1) ⟨hr.fresh (Nat.le_refl _), heap_new v _⟩ hM.chg)
    refine ⟨e, ⟨i6.cell rfl, j6.2⟩, (thnC hM.rd ⟨4, sA.hd, 0, 0⟩ _ (.inr (.inr (.inr (.inl ⟨rfl, _, _, rfl, i6, j6⟩)))) (by rw [RS.tkS_later, RS.tkN_later]; omega)).mono ?_⟩
    rintro r w' ⟨e', T', X', hr', hc'⟩
    exact ⟨e', T', X', hr', ((hc.trans (Chg.of_below hal)).trans hM.chg).trans hc'⟩)
  clear hln
  generalize (sA.tkN.tkS [59]).thn ⟨4, sA.hd, 0, 0⟩ = sF at *
  generalize sA.tkN = sC at *
  generalize hH : sA.hd = H at *
  obtain ⟨jk, jp, jt⟩ := H
  clear hH
  cases bb
  all_goals
    first
      | (have hlt : (1 : Int) < (ns : Int) + 1 := of_decide_eq_true hbz)
      | (have hlt : ¬ (1 : Int) < (ns : Int) + 1 := of_decide_eq_false hbz)
    clear hbz
    subst hW3
    go_enter Tryz.func46, Tryz.ntmps46
    go_wp2_with fail
    clear hW1 hW2
    generalize W2.alloc _ = W3 at *
    go_region_held3 (fun w' => w'.cell? ⟨w.heap.size, 0, none⟩ = some (ptr0 rb)) (go_keep) ((first
      | (go_at_call 65; refine GT.out.mono ?_; rintro e u ⟨rfl, hu⟩; obtain ⟨z0, G2⟩ := GA.out u hu; have G2 := hid G2; clear hu)
      | (go_at_call 71; refine G2.out.mono ?_; clear G2; rintro e v ⟨rfl, T1, X1, hr, hc, z1, iv⟩; have hr := hid hr; have hc := hid hc; have iv := hid iv)))
    all_goals
      go_wp2_with (first
        | (go_at_call 66; refine (HL.out _ _ _ hr.out hc.out iv.out).mono ?_; clear HL; rintro e u2 ⟨rfl, z2, wv, hr2, hc2, iv2⟩; obtain ⟨z3, G3⟩ := HS.out _ _ _ hr2 hc2 iv2; clear HS hr2 hc2 iv2; have G3 := hid G3; obtain ⟨W5, hW5⟩ : ∃ y, u2.alloc (boxW (jk, jp, jt)) = y := ⟨_, rfl⟩; rw [hW5] at z3 G3)
        | (go_at_call 68; refine G3.out.mono ?_; clear G3; rintro e u3 ⟨rfl, ⟨z4, z5⟩, G4⟩; have G4 := hid G4; obtain ⟨v0, v1, v2, -, -⟩ := rd3 z5; clear z5)
        | (go_at_call 71; refine G4.out.mono ?_; clear G4; rintro e u4 ⟨rfl, hP⟩; have hP := hid hP))
      go_end0
      exact ⟨rfl, hP.out⟩

end Go.Proofs.YtcledgljbmepaaaGreatDoor
