/- The reader: nonterminal. Items, one behind the other: each takes a word at least, or gives up. What the reader keeps: its words are those of the text; a symbol's production is there. What the reader knows as long as nothing was wrong: each name stands at a place of its own, in its bounds. -/
import Derived.Test.YthgbjhnknepefaaGreatJ32
namespace Go.Proofs.YthgbjhnknepefaaGreat
open Go.RowKit Go.Maps Go.Sort

theorem RS.pot_le {st : RS} {K : Nat} (h : st.pot ≤ K) : st.rules.length ≤ K ∧ st.nonts.length ≤ K ∧ st.prods.length ≤ K ∧ st.skips.length ≤ K ∧ st.terms.length ≤ K ∧ st.nons.length ≤ K ∧ st.later.length + st.ws.length ≤ K ∧ st.levels ≤ K ∧ st.starts ≤ K := by
  unfold RS.pot RS.lens at h
  omega
def NtP (B : Nat) (T : Nat → Nat) (w : World) (rb : Nat) (x : Wd) (s : RS) (q : Nat) (V : World) : Prop := ∃ T1 X1, RdV B T1 V rb X1 s ∧ Chg T T1 w V ∧ Im T1 V q (boxW x)
set_option maxRecDepth 20000 in
theorem nontA {B rb q : Nat} {T : Nat → Nat} {w V : World} {x : Wd} {s1 : RS} (h : NtP B T w rb x s1 q V) (hn : s1.nonts.length ≤ 99000) :
    Calls Tryz.prog 86 #[ptr0 rb, .string ⟨#[58]⟩] V fun r u => r = .returned (.tuple #[]) ∧ ∃ rv A C w6, (u.drew.cell? ⟨rb, 2, none⟩ = some rv ∧ u.drew.cell? ⟨q, 2, none⟩ = some (.string (strT x.2.2))) ∧
      ((u.alloc (.cells #[.string (strT x.2.2)] 9)).drew.cell? ⟨rb, 2, none⟩ = some rv ∧ (u.alloc (.cells #[.string (strT x.2.2)] 9)).drew.cell? ⟨q, 2, none⟩ = some (.string (strT x.2.2))) ∧
      (Builtin.append_ #[23, 23] 23 #[rv, .slice (some ⟨u.heap.size, 0, none⟩) 1 1]).run Tryz.prog (u.alloc (.cells #[.string (strT x.2.2)] 9)).drew = .ok (.slice A (s1.nonts.length + 1) C) w6 ∧ w6.cell? ⟨rb, 2, none⟩ = some rv ∧ w6.frozen? ⟨rb, 2, none⟩ = false ∧
      NtP B T w rb x ((s1.tkS [58]).addN x.2.2) q (w6.setCell ⟨rb, 2, none⟩ (.slice A (s1.nonts.length + 1) C)) := by
  obtain ⟨T1, X1, hr, hc, iq⟩ := h
  refine (tkSC hr [58]).mono ?_
  rintro r u ⟨e, wv, hM⟩
  have hbd : Below u.heap.size u u.drew := (Below.refl _ u).drew
  have hrd := hM.rd.keep hbd
  have c1 := hM.chg.trans (Chg.of_below (T := T1) hbd)
  have hnn : (s1.tkS [58]).nonts.length = s1.nonts.length := by rw [(SameL.tkS s1 [58]).nonts]
  obtain ⟨A, C, w6, hrun, hbk, T', X', hR, hC⟩ := hrd.app_nonts x.2.2 (by rw [hnn]; omega)
  rw [hnn] at hrun hR hC
  have jq := iq.keep c1
  have hbl := hrd.blk
  have hb6 := hbk.trans hbl
  have hba : Below u.drew.heap.size u.drew (u.alloc (.cells #[.string (strT x.2.2)] 9)).drew := al' u.drew _
  have d1 : u.drew.cell? ⟨rb, 2, none⟩ = some X1.nv := blk_cell hbl rfl
  exact ⟨e, X1.nv, A, C, w6, ⟨d1, jq.cell rfl⟩, ⟨keep_cell hba d1, keep_cell hba (jq.cell rfl)⟩, hrun, blk_cell hb6 rfl, blk_frozen hb6 2, T', X', hR, (hc.trans c1).trans hC, jq.keep hC⟩
set_option maxRecDepth 20000 in
theorem nontB {B rb q : Nat} {T : Nat → Nat} {w V : World} {x : Wd} {s3 : RS} (h : NtP B T w rb x s3 q V) (hn : s3.pot ≤ 90000) :
    (V.drew.cell? ⟨q, 0, none⟩ = some (.int .i64 (x.1 : Int)) ∧ V.drew.cell? ⟨q, 1, none⟩ = some (.int .i64 (x.2.1 : Int)) ∧ V.drew.cell? ⟨q, 2, none⟩ = some (.string (strT x.2.2))) ∧
    Calls Tryz.prog 96 #[.pointer (some ⟨rb, 8, none⟩), wdA x] V.drew fun r u => r = .returned (.tuple #[]) ∧ (u.cell? ⟨q, 0, none⟩ = some (.int .i64 (x.1 : Int)) ∧ u.cell? ⟨q, 1, none⟩ = some (.int .i64 (x.2.1 : Int)) ∧ u.cell? ⟨q, 2, none⟩ = some (.string (strT x.2.2))) ∧
      Calls Tryz.prog 88 #[ptr0 rb, wdA x] u fun r u2 => r = .returned (.tuple #[]) ∧ Calls Tryz.prog 97 #[ptr0 rb] u2 fun r w' => r = .returned (.tuple #[]) ∧ RdP B T w rb ((s3.addO x).once x).alt w' := by
  obtain ⟨T1, X1, hr, hc, iq⟩ := h
  have hbd : Below V.heap.size V V.drew := (Below.refl _ V).drew
  have cd := Chg.of_below (T := T1) hbd
  have jq := iq.keep cd
  obtain ⟨-, -, -, -, -, p6, p7, -, -⟩ := RS.pot_le hn
  refine ⟨⟨jq.cell rfl, jq.cell rfl, jq.cell rfl⟩, (addNC (hr.keep hbd) x (by omega)).mono ?_⟩
  rintro r u ⟨e, T', X', hr', hc'⟩
  have lq := jq.keep hc'
  refine ⟨e, ⟨lq.cell rfl, lq.cell rfl, lq.cell rfl⟩, (onceC hr' x (by show s3.later.length ≤ _; omega)).mono ?_⟩
  rintro r u2 ⟨e', T'', X'', hr'', hc''⟩
  have hp : ((s3.addO x).once x).pot ≤ 90002 := by
    unfold RS.once
    rw [RS.thn_pot, RS.addO_pot]; omega
  obtain ⟨-, -, q3, -, -, -, q7, -, -⟩ := RS.pot_le hp
  refine ⟨e', (altC hr'' (by omega) (by omega)).mono ?_⟩
  rintro r w' ⟨e3, T3, X3, hr3, hc3⟩
  exact ⟨e3, T3, X3, hr3, (((hc.trans cd).trans hc').trans hc'').trans hc3⟩
theorem alts_yes {st : RS} (h : st.atS [124] = true) (hn : st.ws ≠ []) : RS.alts st.ws.length st = RS.alts (st.ws.length - 1) (st.tkS [124]).alt := by
  cases hw : st.ws with
  | nil => exact absurd hw hn
  | cons x l => rw [List.length_cons, RS.alts, h, if_pos rfl]; rfl
theorem alts_no {st : RS} (f : Nat) (h : st.atS [124] = false) : RS.alts f st = st := by
  cases f with
  | zero => rfl
  | succ m => rw [RS.alts, h]; rfl
theorem syms_ws (pr : Nat) : ∀ (f n : Nat) (st : RS), (RS.syms pr f n st).ws.length ≤ st.ws.length
  | 0, _, st => Nat.le_refl _
  | f + 1, n, st => by
    rw [RS.syms]
    split
    · rename_i h
      refine Nat.le_trans (syms_ws pr f (n + 1) _) ?_
      rw [symb_ws h, List.length_tail]
      omega
    · exact Nat.le_refl _
theorem alt_ws (st : RS) : st.alt.ws.length ≤ st.ws.length := by
  unfold RS.alt RS.pct
  have h1 := syms_ws st.prods.length st.alt1.ws.length 0 st.alt1
  have h2 : st.alt1.ws = st.ws := RS.full_ws _ _ _
  generalize RS.syms st.prods.length st.alt1.ws.length 0 st.alt1 = s at *
  rw [h2] at h1
  split
  · show ((s.tkS [37]).tkN).ws.length ≤ _
    have h3 := (SameL.tkS s [37]).ws
    have h4 := (SameL.tkN (s.tkS [37])).ws
    omega
  · exact h1
/-- a fuel that is great enough is any -/
theorem alts_more : ∀ (f : Nat) (st : RS), st.ws.length ≤ f → RS.alts f st = RS.alts st.ws.length st
  | 0, st, h => by rw [Nat.le_zero.1 h]
  | f + 1, st, h => by
    cases hs : st.atS [124] with
    | false => rw [alts_no _ hs, alts_no _ hs]
    | true =>
      have h0 := RS.hd_ne (RS.atS_hd hs)
      rw [alts_yes hs (fun e => by rw [e] at h0; exact absurd h0 (Nat.lt_irrefl _)), RS.alts, hs, if_pos rfl]
      have h1 : (st.tkS [124]).alt.ws.length ≤ st.ws.length - 1 := by
        have := alt_ws (st.tkS [124])
        rw [RS.tkS_ws hs, List.length_tail] at this
        exact this
      rw [alts_more f _ (by omega)]
      rcases Nat.lt_or_ge (st.ws.length - 1) f with h9 | h9
      · rw [alts_more (st.ws.length - 1) _ h1]
      · rw [show st.ws.length - 1 = f by omega, alts_more f _ (by omega)]
termination_by f => f

end Go.Proofs.YthgbjhnknepefaaGreat
namespace Go.Proofs.YthgbjhnknepefaaGreat

theorem lvds_ws (p s : Nat) : ∀ (f : Nat) (st : RS), (RS.lvds p s f st).ws.length ≤ st.ws.length
  | 0, st => Nat.le_refl _
  | f + 1, st => by
    rw [RS.lvds]
    split
    · exact Nat.le_trans (lvds_ws p s f _) (SameL.tkN st).ws
    · exact Nat.le_refl _
theorem alts_ws : ∀ (f : Nat) (st : RS), (RS.alts f st).ws.length ≤ st.ws.length
  | 0, st => Nat.le_refl _
  | f + 1, st => by
    rw [RS.alts]
    split
    · exact Nat.le_trans (alts_ws f _) (Nat.le_trans (alt_ws _) (SameL.tkS st [124]).ws)
    · exact Nat.le_refl _
theorem item_ws {st : RS} (h1 : st.hd.1 = 1) : st.item.ws.length < st.ws.length := by
  have h0 : st.hd.1 ≠ 0 := by omega
  have ht := (RS.take_pot h0).2
  unfold RS.item
  rw [if_neg (by omega)]
  split
  · have e : st.rule.ws = (st.rule1.tkN.cells.tkS [59]).ws := by unfold RS.rule RS.rule2 RS.once RS.thn RS.addW RS.addR; split <;> rfl
    rw [e]
    have a1 := (SameL.tkS st.rule1.tkN.cells [59]).ws
    have a2 := (SameL.cells st.rule1.tkN).ws
    have a3 := (SameL.tkN st.rule1).ws
    have a4 : st.rule1.ws.length ≤ (st.take true).ws.length := (SameL.full _ _ _).ws
    omega
  · rename_i h2
    split
    · have e : st.start.ws = (((st.st1.take true).thn ⟨3, st.hd, if 1 < st.starts + 1 then 1 else 0, 0⟩).tkN.tkS [59]).ws := rfl
      rw [e]
      have a1 := (SameL.tkS ((st.st1.take true).thn ⟨3, st.hd, if 1 < st.starts + 1 then 1 else 0, 0⟩).tkN [59]).ws
      have a2 := (SameL.tkN ((st.st1.take true).thn ⟨3, st.hd, if 1 < st.starts + 1 then 1 else 0, 0⟩)).ws
      have a3 : ((st.st1.take true).thn ⟨3, st.hd, if 1 < st.starts + 1 then 1 else 0, 0⟩).ws.length = (st.take true).ws.length := rfl
      omega
    · rename_i h3
      split
      · unfold RS.level
        dsimp only
        have a1 := (SameL.tkS (RS.lvds (st.levels + 1) (sdN st.hd.2.2) ((st.lv1.take true).lvd (st.levels + 1) (sdN st.hd.2.2)).ws.length ((st.lv1.take true).lvd (st.levels + 1) (sdN st.hd.2.2))) [59]).ws
        have a2 := lvds_ws (st.levels + 1) (sdN st.hd.2.2) ((st.lv1.take true).lvd (st.levels + 1) (sdN st.hd.2.2)).ws.length ((st.lv1.take true).lvd (st.levels + 1) (sdN st.hd.2.2))
        have a3 : ((st.lv1.take true).lvd (st.levels + 1) (sdN st.hd.2.2)).ws.length ≤ (st.lv1.take true).ws.length := (SameL.tkN _).ws
        have a4 : (st.lv1.take true).ws.length = (st.take true).ws.length := rfl
        omega
      · rename_i h4
        have hat : st.atN = true := by unfold RS.atN; rw [h1, sdN_kw h2 h3 h4]; rfl
        unfold RS.nont
        have a1 := (SameL.tkS (RS.alts st.nont1.ws.length st.nont1) [59]).ws
        have a2 := alts_ws st.nont1.ws.length st.nont1
        have a3 : st.nont1.ws.length ≤ st.nont0.ws.length := alt_ws st.nont0
        have a4 : st.nont0.ws.length = ((st.tkN.full (decide (st.nonts.length = 16)) st.hd.2.1).tkS [58]).ws.length := rfl
        have a5 := (SameL.tkS (st.tkN.full (decide (st.nonts.length = 16)) st.hd.2.1) [58]).ws
        have a6 := (SameL.full st.tkN (decide (st.nonts.length = 16)) st.hd.2.1).ws
        have a7 : st.tkN.ws.length + 1 = st.ws.length := by rw [RS.tkN_ws hat, List.length_tail]; have := RS.hd_ne h0; omega
        omega
theorem items_stop (f : Nat) {st : RS} (h : ¬ (st.err = 0 ∧ st.hd.1 ≠ 0)) : RS.items f st = st := by
  cases f with
  | zero => rfl
  | succ f => rw [RS.items, if_neg h]
theorem item_next {st : RS} (_h : st.err = 0) : st.item.err ≠ 0 ∨ st.item.ws.length < st.ws.length := by
  by_cases h1 : st.hd.1 = 1
  · exact .inr (item_ws h1)
  · left
    have e : st.item = st.give st.hd.2.1 1 := if_pos h1
    rw [e]
    exact RS.give_err _ _ _ (by decide)
theorem itms_more : ∀ (n f : Nat) (st : RS), st.ws.length ≤ n → n ≤ f → RS.items f st = RS.items n st
  | 0, f, st, h, _ => by
    have : ¬ (st.err = 0 ∧ st.hd.1 ≠ 0) := fun e => by have := RS.hd_ne e.2; omega
    rw [items_stop f this, items_stop 0 this]
  | n + 1, 0, st, h, hf => by omega
  | n + 1, f + 1, st, h, hf => by
    by_cases hc : st.err = 0 ∧ st.hd.1 ≠ 0
    · rw [RS.items, RS.items, if_pos hc, if_pos hc]
      rcases item_next hc.1 with h1 | h1
      · rw [items_stop f (fun e => h1 e.1), items_stop n (fun e => h1 e.1)]
      · exact itms_more n f _ (by omega) (by omega)
    · rw [items_stop _ hc, items_stop _ hc]
theorem items_step {st : RS} (h : st.err = 0) (hk : st.hd.1 ≠ 0) : RS.items st.ws.length st = RS.items st.item.ws.length st.item := by
  have h0 := RS.hd_ne hk
  obtain ⟨f, hf⟩ : ∃ f, st.ws.length = f + 1 := ⟨st.ws.length - 1, by omega⟩
  rw [hf, RS.items, if_pos ⟨h, hk⟩]
  rcases item_next h with h1 | h1
  · rw [items_stop f (fun e => h1 e.1), items_stop _ (fun e => h1 e.1)]
  · exact itms_more _ f _ (Nat.le_refl _) (by omega)

end Go.Proofs.YthgbjhnknepefaaGreat
namespace Go.Proofs.YthgbjhnknepefaaGreat

structure Inv (P : Wd → Prop) (st : RS) : Prop where
  ws : ∀ x ∈ st.ws, P x
  sk : ∀ x ∈ st.skips, P x
  te : ∀ x ∈ st.terms, P x
  no : ∀ x ∈ st.nons, P x
  la : ∀ s ∈ st.later, P s.w ∧ (s.k = 5 ∨ s.k = 6 → s.a < st.prods.length)
  pr : ∀ l ∈ st.prods, l ≤ st.nonts.length
theorem Inv.hd {P : Wd → Prop} {st : RS} (h : Inv P st) (h0 : P (0, 0, [])) : P st.hd := by
  unfold RS.hd
  cases hw : st.ws with
  | nil => exact h0
  | cons x l => exact h.ws x (by rw [hw]; exact List.mem_cons_self)
theorem Inv.give {P : Wd → Prop} {st : RS} (h : Inv P st) (p : Nat) (e : Int) : Inv P (st.give p e) := by
  unfold RS.give
  split
  · exact ⟨h.ws, h.sk, h.te, h.no, h.la, h.pr⟩
  · exact h
theorem Inv.take {P : Wd → Prop} {st : RS} (h : Inv P st) (b : Bool) : Inv P (st.take b) := by
  unfold RS.take
  split
  · exact ⟨fun x hx => h.ws x (List.mem_of_mem_tail hx), h.sk, h.te, h.no, h.la, h.pr⟩
  · exact h.give _ _
theorem Inv.full {P : Wd → Prop} {st : RS} (h : Inv P st) (b : Bool) (p : Nat) : Inv P (st.full b p) := by
  unfold RS.full
  split
  · exact h.give _ _
  · exact h
theorem Inv.fail {P : Wd → Prop} {st : RS} (h : Inv P st) (p : Nat) (e : Int) : Inv P (st.fail p e) := by
  unfold RS.fail
  split
  · exact h
  · exact h.give _ _
theorem Inv.thn {P : Wd → Prop} {st : RS} (h : Inv P st) {s : Stp} (h1 : P s.w) (h2 : s.k = 5 ∨ s.k = 6 → s.a < st.prods.length) : Inv P (st.thn s) := by
  refine ⟨h.ws, h.sk, h.te, h.no, fun x hx => ?_, h.pr⟩
  have hx : x ∈ st.later ++ [s] := hx
  rw [List.mem_append, List.mem_singleton] at hx
  rcases hx with hx | rfl
  · exact h.la x hx
  · exact ⟨h1, h2⟩
theorem Inv.addP {P : Wd → Prop} {st : RS} (h : Inv P st) : Inv P st.addP := by
  refine ⟨h.ws, h.sk, h.te, h.no, fun x hx => ⟨(h.la x hx).1, fun e => ?_⟩, fun l hl => ?_⟩
  · show x.a < (st.prods ++ [_]).length
    rw [List.length_append]
    exact Nat.lt_of_lt_of_le ((h.la x hx).2 e) (Nat.le_add_right _ _)
  · have hl : l ∈ st.prods ++ [st.nonts.length] := hl
    rw [List.mem_append, List.mem_singleton] at hl
    rcases hl with hl | rfl
    · exact h.pr l hl
    · exact Nat.le_refl _
theorem Inv.addN {P : Wd → Prop} {st : RS} (h : Inv P st) (t : Txt) : Inv P (st.addN t) := ⟨h.ws, h.sk, h.te, h.no, h.la, fun l hl => by show l ≤ (st.nonts ++ [t]).length; rw [List.length_append]; exact Nat.le_trans (h.pr l hl) (Nat.le_add_right _ _)⟩
theorem Inv.addR {P : Wd → Prop} {st : RS} (h : Inv P st) (r : Rl) : Inv P (st.addR r) := ⟨h.ws, h.sk, h.te, h.no, h.la, h.pr⟩
theorem Inv.addO {P : Wd → Prop} {st : RS} (h : Inv P st) {x : Wd} (hx : P x) : Inv P (st.addO x) := by
  refine ⟨h.ws, h.sk, h.te, fun y hy => ?_, h.la, h.pr⟩
  have hy : y ∈ st.nons ++ [x] := hy
  rw [List.mem_append, List.mem_singleton] at hy
  rcases hy with hy | rfl
  · exact h.no y hy
  · exact hx
theorem Inv.addW {P : Wd → Prop} {st : RS} (h : Inv P st) {x : Wd} (hx : P x) (sk : Bool) : Inv P (st.addW x sk) := by
  unfold RS.addW
  split
  · refine ⟨h.ws, fun y hy => ?_, h.te, h.no, h.la, h.pr⟩
    have hy : y ∈ st.skips ++ [x] := hy
    rw [List.mem_append, List.mem_singleton] at hy
    rcases hy with hy | rfl
    · exact h.sk y hy
    · exact hx
  · refine ⟨h.ws, h.sk, fun y hy => ?_, h.no, h.la, h.pr⟩
    have hy : y ∈ st.terms ++ [x] := hy
    rw [List.mem_append, List.mem_singleton] at hy
    rcases hy with hy | rfl
    · exact h.te y hy
    · exact hx

theorem Inv.once {P : Wd → Prop} {st : RS} (h : Inv P st) {x : Wd} (hx : P x) : Inv P (st.once x) := h.thn hx (fun e => by rcases e with e | e <;> cases e)
section
variable {P : Wd → Prop} (h0 : P (0, 0, []))
include h0
theorem Inv.rule {st : RS} (h : Inv P st) : Inv P st.rule := by
  have h1 : Inv P st.rule1 := (h.take true).full _ _
  have hx := h1.hd h0
  unfold RS.rule RS.rule2
  exact Inv.once (((((h1.take _).take _).fail _ _).take _ |>.addR _).addW hx _) hx
theorem Inv.lvd {st : RS} (h : Inv P st) (p s : Nat) : Inv P (st.lvd p s) := (h.take _).thn (h.hd h0) (fun e => by rcases e with e | e <;> cases e)
theorem Inv.lvds (p s : Nat) : ∀ (n : Nat) (st : RS), Inv P st → Inv P (RS.lvds p s n st)
  | 0, _, h => h
  | n + 1, st, h => by
    rw [RS.lvds]
    split
    · exact Inv.lvds p s n _ (Inv.lvd h0 h p s)
    · exact h
theorem Inv.level {st : RS} (h : Inv P st) : Inv P st.level := by
  have h1 : Inv P st.lv1 := ⟨h.ws, h.sk, h.te, h.no, h.la, h.pr⟩
  unfold RS.level
  exact (Inv.lvds h0 _ _ _ _ (Inv.lvd h0 (h1.take true) _ _)).take _
theorem Inv.start {st : RS} (h : Inv P st) : Inv P st.start := by
  have h1 : Inv P st.st1 := ⟨h.ws, h.sk, h.te, h.no, h.la, h.pr⟩
  have h2 : Inv P ((st.st1.take true).thn ⟨3, st.hd, if 1 < st.starts + 1 then 1 else 0, 0⟩) := (h1.take true).thn (h.hd h0) (fun e => by rcases e with e | e <;> cases e)
  unfold RS.start
  exact ((h2.take _).take _).thn (h2.hd h0) (fun e => by rcases e with e | e <;> cases e)
theorem Inv.symb {st : RS} (h : Inv P st) {pr : Nat} (hp : pr < st.prods.length) : Inv P (st.symb pr) := (h.take _).thn (h.hd h0) (fun _ => by show pr < (st.take st.atN).prods.length; rw [(SameL.take st st.atN).prods]; exact hp)
theorem Inv.prec {st : RS} (h : Inv P st) {pr : Nat} (hp : pr < st.prods.length) : Inv P (st.prec pr) := (h.take _).thn (h.hd h0) (fun _ => by show pr < (st.take st.atN).prods.length; rw [(SameL.take st st.atN).prods]; exact hp)
theorem Inv.syms (pr : Nat) : ∀ (f n : Nat) (st : RS), Inv P st → pr < st.prods.length → Inv P (RS.syms pr f n st) ∧ (RS.syms pr f n st).prods = st.prods
  | 0, _, _, h, _ => ⟨h, rfl⟩
  | f + 1, n, st, h, hp => by
    rw [RS.syms]
    split
    · have e1 := (SameL.full st (decide (n = 8)) st.hd.2.1).prods
      have hp1 : pr < (st.full (decide (n = 8)) st.hd.2.1).prods.length := by rw [e1]; exact hp
      have e2 : ((st.full (decide (n = 8)) st.hd.2.1).symb pr).prods = st.prods := by show (st.full (decide (n = 8)) st.hd.2.1).tkN.prods = _; rw [(SameL.tkN _).prods, e1]
      obtain ⟨a, b⟩ := Inv.syms pr f (n + 1) _ (Inv.symb h0 (h.full _ _) hp1) (by rw [e2]; exact hp)
      exact ⟨a, b.trans e2⟩
    · exact ⟨h, rfl⟩
theorem Inv.alt {st : RS} (h : Inv P st) : Inv P st.alt := by
  have h1 : Inv P st.alt1 := (h.full _ _).addP
  have e1 : st.alt1.prods.length = st.prods.length + 1 := by
    show ((st.full _ _).prods ++ [_]).length = _
    rw [List.length_append, (SameL.full _ _ _).prods]; rfl
  obtain ⟨a, b⟩ := Inv.syms h0 st.prods.length st.alt1.ws.length 0 st.alt1 h1 (by omega)
  unfold RS.alt RS.pct
  split
  · exact Inv.prec h0 (a.take _) (by rw [(SameL.take _ _).prods, b]; omega)
  · exact a
theorem Inv.alts : ∀ (f : Nat) (st : RS), Inv P st → Inv P (RS.alts f st)
  | 0, _, h => h
  | f + 1, st, h => by
    rw [RS.alts]
    split
    · exact Inv.alts f _ (Inv.alt h0 (h.take _))
    · exact h
theorem Inv.nont {st : RS} (h : Inv P st) : Inv P st.nont := by
  have hx := h.hd h0
  unfold RS.nont RS.nont1
  exact (Inv.alts h0 _ _ (Inv.alt h0 (Inv.once (((((h.take _).full _ _).take _).addN _).addO hx) hx))).take _
theorem Inv.item {st : RS} (h : Inv P st) : Inv P st.item := by
  unfold RS.item
  split
  · exact h.give _ _
  · split
    · exact Inv.rule h0 h
    · split
      · exact Inv.start h0 h
      · split
        · exact Inv.level h0 h
        · exact Inv.nont h0 h
theorem Inv.items : ∀ (f : Nat) (st : RS), Inv P st → Inv P (RS.items f st)
  | 0, _, h => h
  | f + 1, st, h => by
    rw [RS.items]
    split
    · exact Inv.items f _ (Inv.item h0 h)
    · exact h
end

end Go.Proofs.YthgbjhnknepefaaGreat
namespace Go.Proofs.YthgbjhnknepefaaGreat

theorem give_err {st : RS} {p : Nat} {e : Int} (he : e ≠ 0) : (st.give p e).err ≠ 0 := by
  unfold RS.give
  split
  · exact he
  · assumption
theorem take_err {st : RS} {b : Bool} (h : (st.take b).err = 0) : b = true ∧ st.err = 0 := by
  unfold RS.take at h
  split at h
  · rename_i e; exact ⟨e, h⟩
  · exact absurd h (give_err (by decide))
theorem full_err {st : RS} {b : Bool} {p : Nat} (h : (st.full b p).err = 0) : b = false ∧ st.err = 0 := by
  unfold RS.full at h
  split at h
  · exact absurd h (give_err (by decide))
  · rename_i e; exact ⟨by simpa using e, h⟩
theorem fail_err {st : RS} {p : Nat} {e : Int} (h : (st.fail p e).err = 0) : e = 0 ∧ st.err = 0 := by
  unfold RS.fail at h
  split at h
  · rename_i e; exact ⟨e, h⟩
  · rename_i e; exact absurd h (give_err e)
theorem addW_err (st : RS) (x : Wd) (sk : Bool) : (st.addW x sk).err = st.err := by
  unfold RS.addW
  split <;> rfl
theorem atN_ws {st : RS} (h : st.atN = true) : st.ws = st.hd :: st.ws.tail := by
  have h1 : st.hd.1 = 1 := by
    unfold RS.atN at h
    simp only [Bool.and_eq_true, decide_eq_true_eq] at h
    exact h.1
  unfold RS.hd at h1 ⊢
  cases hw : st.ws with
  | nil => rw [hw] at h1; cases h1
  | cons x l => rfl
/-- words are left, nothing else but place and error has changed -/
structure Mv (a b : RS) : Prop where
  same : SameL a b
  suf : b.ws <:+ a.ws
theorem Mv.refl (a : RS) : Mv a a := ⟨SameL.refl a, List.suffix_refl _⟩
theorem Mv.trans {a b c : RS} (h : Mv a b) (g : Mv b c) : Mv a c := ⟨h.same.trans g.same, g.suf.trans h.suf⟩
theorem Mv.give (st : RS) (p : Nat) {e : Int} (he : e ≠ 0) : Mv st (st.give p e) := ⟨SameL.give st p he, by
  unfold RS.give
  split <;> exact List.suffix_refl _⟩
theorem Mv.take (st : RS) (b : Bool) : Mv st (st.take b) := by
  refine ⟨SameL.take st b, ?_⟩
  unfold RS.take
  split
  · exact List.tail_suffix _
  · exact (Mv.give st _ (by decide)).suf
theorem Mv.full (st : RS) (b : Bool) (p : Nat) : Mv st (st.full b p) := by
  unfold RS.full
  split
  · exact Mv.give st _ (by decide)
  · exact Mv.refl st
theorem Mv.fail (st : RS) (p : Nat) (e : Int) : Mv st (st.fail p e) := by
  unfold RS.fail
  split
  · exact Mv.refl st
  · rename_i h; exact Mv.give st _ h
theorem Mv.cells (st : RS) : Mv st st.cells := (Mv.take _ _).trans (Mv.fail _ _ _)
/-- how many symbols are left to be done for a production -/
def cntS (a : Nat) (l : List Stp) : Nat := (l.filter fun s => decide (s.k = 5) && decide (s.a = a)).length
theorem cntS_app (a : Nat) (l : List Stp) (s : Stp) : cntS a (l ++ [s]) = cntS a l + (if s.k = 5 ∧ s.a = a then 1 else 0) := by
  unfold cntS
  rw [List.filter_append, List.length_append]
  by_cases h1 : s.k = 5 <;> by_cases h2 : s.a = a <;> simp [h1, h2]
abbrev Bef (x y : Wd) : Prop := x.2.1 < y.2.1
structure Gd (st : RS) : Prop where
  ord : st.ws.Pairwise Bef
  tw : ∀ x ∈ st.terms, ∀ y ∈ st.ws, Bef x y
  nw : ∀ x ∈ st.nons, ∀ y ∈ st.ws, Bef x y
  tp : st.terms.Pairwise Bef
  np : st.nons.Pairwise Bef
  tn : ∀ x ∈ st.terms, ∀ y ∈ st.nons, x.2.1 ≠ y.2.1
  rx : ∀ r ∈ st.rules, ∃ t, r.re = (rxA t).1 ∧ (rxA t).2 = 0
  lr : st.rules.length ≤ 16
  ln : st.nonts.length ≤ 16
  ct : ∀ a, cntS a st.later ≤ 8
def GdI (st : RS) : Prop := st.err = 0 → Gd st
theorem Gd.mv {a b : RS} (h : Gd a) (m : Mv a b) : Gd b := by
  have hs := m.suf.subset
  refine ⟨h.ord.sublist m.suf.sublist, ?_, ?_, ?_, ?_, ?_, ?_, ?_, ?_, ?_⟩
  · rw [m.same.terms]; exact fun x hx y hy => h.tw x hx y (hs hy)
  · rw [m.same.nons]; exact fun x hx y hy => h.nw x hx y (hs hy)
  · rw [m.same.terms]; exact h.tp
  · rw [m.same.nons]; exact h.np
  · rw [m.same.terms, m.same.nons]; exact h.tn
  · rw [m.same.rules]; exact h.rx
  · rw [m.same.rules]; exact h.lr
  · rw [m.same.nonts]; exact h.ln
  · rw [m.same.later]; exact h.ct
theorem GdI.mv {a b : RS} (h : GdI a) (m : Mv a b) : GdI b := fun e => (h (m.same.err e)).mv m
theorem Gd.thn {st : RS} (h : Gd st) {s : Stp} (hk : s.k ≠ 5) : Gd (st.thn s) := ⟨h.ord, h.tw, h.nw, h.tp, h.np, h.tn, h.rx, h.lr, h.ln, fun a => by
  show cntS a (st.later ++ [s]) ≤ 8
  rw [cntS_app, if_neg (fun e => hk e.1)]
  exact h.ct a⟩
theorem GdI.thn {st : RS} (h : GdI st) {s : Stp} (hk : s.k ≠ 5) : GdI (st.thn s) := fun e => (h e).thn hk
theorem Gd.told {st : RS} (h : Gd st) {x : Wd} {r : Rl} (sk : Bool) (h1 : ∀ y ∈ st.ws, Bef x y) (h2 : ∀ y ∈ st.terms, Bef y x) (h3 : ∀ y ∈ st.nons, Bef y x) (h4 : ∃ t, r.re = (rxA t).1 ∧ (rxA t).2 = 0) (h5 : st.rules.length < 16) : Gd (((st.addR r).addW x sk).once x) := by
  refine Gd.thn ?_ (by show (1 : Nat) ≠ 5; decide)
  have hrx : ∀ r' ∈ st.rules ++ [r], ∃ t, r'.re = (rxA t).1 ∧ (rxA t).2 = 0 := fun r' hr => by
    rw [List.mem_append, List.mem_singleton] at hr
    rcases hr with hr | rfl
    · exact h.rx r' hr
    · exact h4
  have hln : (st.rules ++ [r]).length ≤ 16 := by rw [List.length_append, List.length_singleton]; omega
  unfold RS.addW
  split
  · exact ⟨h.ord, h.tw, h.nw, h.tp, h.np, h.tn, hrx, hln, h.ln, h.ct⟩
  · refine ⟨h.ord, fun y hy z hz => ?_, h.nw, ?_, h.np, fun y hy z hz => ?_, hrx, hln, h.ln, h.ct⟩
    · have hy : y ∈ st.terms ++ [x] := hy
      rw [List.mem_append, List.mem_singleton] at hy
      rcases hy with hy | rfl
      · exact h.tw y hy z hz
      · exact h1 z hz
    · show (st.terms ++ [x]).Pairwise Bef
      rw [List.pairwise_append]
      exact ⟨h.tp, List.pairwise_singleton _ _, fun a ha b hb => by rw [List.mem_singleton] at hb; subst hb; exact h2 a ha⟩
    · have hy : y ∈ st.terms ++ [x] := hy
      have hz : z ∈ st.nons := hz
      rw [List.mem_append, List.mem_singleton] at hy
      rcases hy with hy | rfl
      · exact h.tn y hy z hz
      · exact fun e => absurd (h3 z hz) (by unfold Bef; omega)
theorem Gd.toldN {st : RS} (h : Gd st) {x : Wd} (h1 : ∀ y ∈ st.ws, Bef x y) (h2 : ∀ y ∈ st.terms, Bef y x) (h3 : ∀ y ∈ st.nons, Bef y x) (h5 : st.nonts.length < 16) : Gd (((st.addN x.2.2).addO x).once x) := by
  refine Gd.thn ?_ (by show (1 : Nat) ≠ 5; decide)
  refine ⟨h.ord, h.tw, fun y hy z hz => ?_, h.tp, ?_, fun y hy z hz => ?_, h.rx, h.lr, ?_, h.ct⟩
  · have hy : y ∈ st.nons ++ [x] := hy
    rw [List.mem_append, List.mem_singleton] at hy
    rcases hy with hy | rfl
    · exact h.nw y hy z hz
    · exact h1 z hz
  · show (st.nons ++ [x]).Pairwise Bef
    rw [List.pairwise_append]
    exact ⟨h.np, List.pairwise_singleton _ _, fun a ha b hb => by rw [List.mem_singleton] at hb; subst hb; exact h3 a ha⟩
  · have hz : z ∈ st.nons ++ [x] := hz
    rw [List.mem_append, List.mem_singleton] at hz
    rcases hz with hz | rfl
    · exact h.tn y hy z hz
    · exact fun e => absurd (h2 y hy) (by unfold Bef; omega)
  · show (st.nonts ++ [x.2.2]).length ≤ 16
    rw [List.length_append, List.length_singleton]; omega
/-- a word that was taken stands ahead of all that are left, behind all that were told -/
theorem Gd.took {st : RS} (h : Gd st) (hN : st.atN = true) : (∀ y ∈ st.tkN.ws, Bef st.hd y) ∧ (∀ y ∈ st.terms, Bef y st.hd) ∧ ∀ y ∈ st.nons, Bef y st.hd := by
  have hw := atN_ws hN
  have hm : st.hd ∈ st.ws := by rw [hw]; exact List.mem_cons_self
  refine ⟨fun y hy => ?_, fun y hy => h.tw y hy _ hm, fun y hy => h.nw y hy _ hm⟩
  have e : st.tkN.ws = st.ws.tail := by unfold RS.tkN RS.take; rw [hN]; rfl
  rw [e] at hy
  have ho := h.ord
  rw [hw] at ho
  exact (List.pairwise_cons.1 ho).1 y hy
theorem GdI.rule {st : RS} (h : GdI st) : GdI st.rule := by
  intro e
  have m1 : Mv st st.rule1 := (Mv.take _ _).trans (Mv.full _ _ _)
  unfold RS.rule RS.rule2 at e ⊢
  generalize hx : st.rule1.hd = x at e ⊢
  have e4 : (st.rule1.tkN.cells.tkS [59]).err = 0 := by
    have e' : (((st.rule1.tkN.cells.tkS [59]).addR ⟨x.2.2, (rxA st.rule1.tkN.hd.2.2).1, decide (st.hd.2.2 = kSkip)⟩).addW x (decide (st.hd.2.2 = kSkip))).err = 0 := e
    rw [addW_err] at e'
    exact e'
  obtain ⟨-, e3⟩ := take_err e4
  obtain ⟨hr, e3'⟩ := fail_err e3
  obtain ⟨-, e2⟩ := take_err e3'
  obtain ⟨hN, e1⟩ := take_err e2
  obtain ⟨h16, e0'⟩ := full_err e1
  obtain ⟨-, e0⟩ := take_err e0'
  have g0 := h e0
  have g1 := g0.mv m1
  obtain ⟨t1, t2, t3⟩ := g1.took hN
  rw [hx] at t1 t2 t3
  have m4 : Mv st.rule1.tkN (st.rule1.tkN.cells.tkS [59]) := (Mv.cells _).trans (Mv.take _ _)
  have m5 : Mv st.rule1 (st.rule1.tkN.cells.tkS [59]) := (Mv.take _ _).trans m4
  have g4 := g1.mv m5
  refine g4.told _ (fun y hy => t1 y (m4.suf.subset hy)) (fun y hy => t2 y (by rw [m5.same.terms] at hy; exact hy)) (fun y hy => t3 y (by rw [m5.same.nons] at hy; exact hy)) ⟨_, rfl, hr⟩ ?_
  rw [m5.same.rules, m1.same.rules]
  have := g0.lr
  have h16 := of_decide_eq_false h16
  omega
theorem GdI.lvds (p s : Nat) : ∀ (n : Nat) (st : RS), GdI st → GdI (RS.lvds p s n st)
  | 0, _, h => h
  | n + 1, st, h => by
    rw [RS.lvds]
    split
    · exact GdI.lvds p s n _ ((h.mv (Mv.take _ _)).thn (by show (2 : Nat) ≠ 5; decide))
    · exact h
theorem GdI.level {st : RS} (h : GdI st) : GdI st.level := by
  have h1 : GdI st.lv1 := fun e => let g := h e; ⟨g.ord, g.tw, g.nw, g.tp, g.np, g.tn, g.rx, g.lr, g.ln, g.ct⟩
  unfold RS.level
  exact (GdI.lvds _ _ _ _ (((h1.mv (Mv.take _ _)).mv (Mv.take _ _)).thn (by show (2 : Nat) ≠ 5; decide))).mv (Mv.take _ _)
theorem GdI.start {st : RS} (h : GdI st) : GdI st.start := by
  have h1 : GdI st.st1 := fun e => let g := h e; ⟨g.ord, g.tw, g.nw, g.tp, g.np, g.tn, g.rx, g.lr, g.ln, g.ct⟩
  unfold RS.start
  exact ((((h1.mv (Mv.take _ _)).thn (by show (3 : Nat) ≠ 5; decide)).mv (Mv.take _ _)).mv (Mv.take _ _)).thn (by show (4 : Nat) ≠ 5; decide)
/-- symbols: at most eight -/
theorem GdI.syms (pr : Nat) : ∀ (f n : Nat) (st : RS), (st.err = 0 → Gd st ∧ cntS pr st.later = n ∧ n ≤ 8) → GdI (RS.syms pr f n st)
  | 0, _, _, h => fun e => (h e).1
  | f + 1, n, st, h => by
    rw [RS.syms]
    split
    · refine GdI.syms pr f (n + 1) _ (fun e => ?_)
      obtain ⟨-, e1⟩ := take_err (st := st.full (decide (n = 8)) st.hd.2.1) e
      obtain ⟨h8, e0⟩ := full_err e1
      have h8 := of_decide_eq_false h8
      obtain ⟨g, hc, hn⟩ := h e0
      have m : Mv st (st.full (decide (n = 8)) st.hd.2.1).tkN := (Mv.full _ _ _).trans (Mv.take _ _)
      have g1 := g.mv m
      have hl : ∀ a, cntS a ((st.full (decide (n = 8)) st.hd.2.1).symb pr).later = cntS a st.later + (if pr = a then 1 else 0) := fun a => by
        show cntS a ((st.full (decide (n = 8)) st.hd.2.1).tkN.later ++ [_]) = _
        rw [cntS_app, m.same.later]
        simp
      refine ⟨⟨g1.ord, g1.tw, g1.nw, g1.tp, g1.np, g1.tn, g1.rx, g1.lr, g1.ln, fun a => ?_⟩, ?_, by omega⟩
      · rw [hl]
        by_cases ha : pr = a
        · subst ha
          rw [if_pos rfl]; omega
        · rw [if_neg ha]; exact g.ct a
      · rw [hl, if_pos rfl, hc]
    · exact fun e => (h e).1
theorem cntS_zero {a : Nat} {l : List Stp} (h : ∀ s ∈ l, s.k = 5 ∨ s.k = 6 → s.a < a) : cntS a l = 0 := by
  unfold cntS
  rw [List.length_eq_zero_iff, List.filter_eq_nil_iff]
  intro s hs
  simp only [Bool.and_eq_true, decide_eq_true_eq]
  intro e
  have := h s hs (.inl e.1)
  omega
theorem GdI.alt {st : RS} (h : GdI st) (hl : ∀ s ∈ st.later, s.k = 5 ∨ s.k = 6 → s.a < st.prods.length) : GdI st.alt := by
  have m := Mv.full st (decide (st.prods.length = 40) && st.inA) st.hd.2.1
  have h1 : GdI (RS.syms st.prods.length st.alt1.ws.length 0 st.alt1) := GdI.syms _ _ _ _ (fun e => by
    have g := (h (m.same.err e)).mv m
    exact ⟨⟨g.ord, g.tw, g.nw, g.tp, g.np, g.tn, g.rx, g.lr, g.ln, g.ct⟩, by show cntS _ (st.full _ _).later = 0; rw [m.same.later]; exact cntS_zero hl, by decide⟩)
  unfold RS.alt RS.pct
  split
  · exact ((h1.mv (Mv.take _ _)).mv (Mv.take _ _)).thn (by show (6 : Nat) ≠ 5; decide)
  · exact h1
theorem GdI.alts : ∀ (f : Nat) (st : RS), GdI st → Inv (fun _ => True) st → GdI (RS.alts f st)
  | 0, _, h, _ => h
  | f + 1, st, h, hi => by
    rw [RS.alts]
    split
    · have hi1 := hi.take (st.atS [124])
      exact GdI.alts f _ (GdI.alt (h.mv (Mv.take _ _)) (fun s hs => (hi1.la s hs).2)) (Inv.alt trivial hi1)
    · exact h
theorem GdI.nont {st : RS} (h : GdI st) (hi : Inv (fun _ => True) st) : GdI st.nont := by
  have hi0 : Inv (fun _ => True) st.nont0 := Inv.once ((((hi.take _).full _ _).take _ |>.addN _).addO trivial) trivial
  have h0 : GdI st.nont0 := by
    intro e
    have e3 : ((st.tkN.full (decide (st.nonts.length = 16)) st.hd.2.1).tkS [58]).err = 0 := e
    obtain ⟨-, e2⟩ := take_err e3
    obtain ⟨h16, e1⟩ := full_err e2
    obtain ⟨hN, e0⟩ := take_err e1
    have g0 := h e0
    obtain ⟨t1, t2, t3⟩ := g0.took hN
    have m2 : Mv st.tkN ((st.tkN.full (decide (st.nonts.length = 16)) st.hd.2.1).tkS [58]) := (Mv.full _ _ _).trans (Mv.take _ _)
    have m3 : Mv st ((st.tkN.full (decide (st.nonts.length = 16)) st.hd.2.1).tkS [58]) := (Mv.take _ _).trans m2
    refine (g0.mv m3).toldN (fun y hy => t1 y (m2.suf.subset hy)) (fun y hy => t2 y (by rw [m3.same.terms] at hy; exact hy)) (fun y hy => t3 y (by rw [m3.same.nons] at hy; exact hy)) ?_
    rw [m3.same.nonts]
    have := g0.ln
    have h16 := of_decide_eq_false h16
    omega
  exact (GdI.alts _ _ (GdI.alt h0 (fun s hs => (hi0.la s hs).2)) (Inv.alt trivial hi0)).mv (Mv.take _ _)
theorem GdI.item {st : RS} (h : GdI st) (hi : Inv (fun _ => True) st) : GdI st.item := by
  unfold RS.item
  split
  · exact fun e => absurd e (give_err (by decide))
  · split
    · exact h.rule
    · split
      · exact h.start
      · split
        · exact h.level
        · exact h.nont hi
theorem GdI.items : ∀ (f : Nat) (st : RS), GdI st → Inv (fun _ => True) st → GdI (RS.items f st)
  | 0, _, h, _ => h
  | f + 1, st, h, hi => by
    rw [RS.items]
    split
    · exact GdI.items f _ (h.item hi) (Inv.item trivial hi)
    · exact h

end Go.Proofs.YthgbjhnknepefaaGreat
