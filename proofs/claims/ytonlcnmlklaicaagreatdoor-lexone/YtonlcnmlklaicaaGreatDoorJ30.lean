/- dfa.Build: what it holds from state to state. dfa.Build: the calls that it makes, of the places of right rules. And of package bytes. Parts that are split by each set in turn: what they are, and that they come, sorted, to the one list. -/
import Derived.Test.YtonlcnmlklaicaaGreatDoorJ29
import Derived.Test.YtonlcnmlklaicaaGreatDoorJ21
import Derived.Test.YtonlcnmlklaicaaGreatDoorJ18
namespace Go.Proofs.YtonlcnmlklaicaaGreatDoor
open Go.RowKit

structure BldS (B mb mm db rb : Nat) (w0 w : World) (F D : Nat → Prop) (tv nv av pv : Value) (vs : List Value) (L : List Txt) (P : List W4) (N : List (List Int)) (A : List Int) : Prop where
  me : MeO B mb F w tv mm L
  df : DfO B db D F w nv av vs N A
  par : Sets w pv P
  pD : Off (fun k => D k ∨ F k) pv
  low : Below w0.heap.size w0 w
  fF : ∀ k, F k → w0.heap.size ≤ k
  dF : ∀ k, D k → w0.heap.size ≤ k
  offR : ∀ j, Off (oneBlk rb) (vs.getD j nilV)
theorem BldS.keep {B mb mm db rb : Nat} {w0 w u : World} {F D : Nat → Prop} {tv nv av pv : Value} {vs : List Value} {L : List Txt} {P : List W4} {N : List (List Int)} {A : List Int} (h : BldS B mb mm db rb w0 w F D tv nv av pv vs L P N A) (hu : Below w.heap.size w u) : BldS B mb mm db rb w0 u F D tv nv av pv vs L P N A :=
  ⟨h.me.keep hu, h.df.keep hu, h.par.keep hu, h.pD, bl_step h.low hu, h.fF, h.dF, h.offR⟩
theorem Off.sets {F G : Nat → Prop} {w : World} {v : Value} {l : List W4} (ho : Off F v) (h : Sets w v l) (hG : ∀ k, G k → F k ∨ w.heap.size ≤ k) : Off G v := fun ad n c e hn hg => by
  obtain ⟨a, cap, rfl, hc, hz, _, hat⟩ := h
  injection e with e1 e2 e3
  subst e1 e2
  obtain ⟨b, o, e, hlt, h1⟩ := hat 0 hn
  rcases hG _ hg with h | h
  · exact ho _ _ _ rfl hn h
  · cases e
    exact absurd hlt (Nat.not_lt.2 h)
/-- behind rowOf -/
theorem BldS.row1 {B mb mm db rb : Nat} {w0 w w1 : World} {F D : Nat → Prop} {tv nv av pv rv : Value} {vs : List Value} {L L1 : List Txt} {P : List W4} {N : List (List Int)} {A rw : List Int} (h : BldS B mb mm db rb w0 w F D tv nv av pv vs L P N A) (hrb : rb < w0.heap.size) (hres : RowRes B mb mm F w w1 L1 rv rw) :
    ∃ F1 tv1, BldS B mb mm db rb w0 w1 F1 D tv1 nv av pv vs L1 P N A ∧ Own w1 w.heap.size rv rw ∧ Off (fun k => D k ∨ F1 k) rv ∧ Off (oneBlk rb) rv := by
  obtain ⟨hO, F1, tv1, hm, hv, ho⟩ := hres
  have hbl : Below w0.heap.size w w1 := hv.kept.below h.fF h.low.size
  have hfresh : ∀ ad n c, rv = .slice (some ad) n c → w.heap.size ≤ ad.block := fun ad n c e => by
    rcases hO.2 with ⟨e0, _⟩ | ⟨g, cap, cur, e0, hb, _⟩
    · rw [e] at e0; cases e0
    · rw [e] at e0
      injection e0 with e1
      injection e1 with e1
      rw [e1]
      exact hb
  refine ⟨F1, tv1, ⟨hm, h.df.moved hv, h.par.kept hv.kept (fun ad n c e hn hf => h.pD ad n c e hn (Or.inr hf)), h.pD.sets h.par (fun k hk => ?_), h.low.trans hbl, fun k hk => ?_, h.dF, h.offR⟩, hO, fun ad n c e hn hf => ?_, fun ad n c e hn hf => ?_⟩
  · rcases hk with h1 | h1
    · exact Or.inl (Or.inl h1)
    · rcases hv.new k h1 with h2 | h2
      · exact Or.inl (Or.inr h2)
      · exact Or.inr h2
  · rcases hv.new k hk with h2 | h2
    · exact h.fF k h2
    · exact Nat.le_trans h.low.size h2
  · rcases hf with h1 | h1
    · have := h.df.lt _ h1
      have := hfresh ad n c e
      omega
    · exact ho ad n c e hn h1
  · have := hfresh ad n c e
    have e1 : ad.block = rb := hf
    have := h.low.size
    omega
/-- behind the append of a row -/
theorem BldS.row2 {B mb mm db rb : Nat} {w0 w w2 : World} {F D : Nat → Prop} {tv nv av pv x : Value} {vs : List Value} {L : List Txt} {P : List W4} {N : List (List Int)} {A l : List Int} (h : BldS B mb mm db rb w0 w F D tv nv av pv vs L P N A) (hx : Nums w x l) (hxo : Off (fun k => D k ∨ F k) x) (hxr : Off (oneBlk rb) x) {g cap : Nat}
    (ho : w2.ownsRow B 23 1 (.slice (some ⟨g, 0, none⟩) (vs.length + 1) cap) (vs.length + 1) (vs ++ [x])) (hg : w.grownBy w2 nv.ownBlock) (hat : nv.ownBlock = some g ∨ g = w.heap.size) :
    ∃ D2, BldS B mb mm db rb w0 (w2.setCell ⟨db, 0, none⟩ (.slice (some ⟨g, 0, none⟩) (vs.length + 1) cap)) F D2 tv (.slice (some ⟨g, 0, none⟩) (vs.length + 1) cap) av pv (vs ++ [x]) L P (N ++ [l]) A := by
  have hat' : ∀ k, (Value.slice (some ⟨g, 0, none⟩) (vs.length + 1) cap).ownBlock = some k → nv.ownBlock = some k ∨ w.heap.size ≤ k := fun k e => by
    have e1 : g = k := by injection e
    subst e1
    rcases hat with h1 | h1
    · exact Or.inl h1
    · exact Or.inr (by omega)
  obtain ⟨h1, h2⟩ := h.df.addRow h.me.lt hx hxo ho hg hat'
  have hbl : Below w0.heap.size w (w2.setCell ⟨db, 0, none⟩ (.slice (some ⟨g, 0, none⟩) (vs.length + 1) cap)) := h2.below h.dF h.low.size
  refine ⟨_, ⟨h.me.kept h2 (fun k hf hd => h.df.apart k hd hf), h1, h.par.kept h2 (fun ad n c e hn hd => h.pD ad n c e hn (Or.inl hd)), h.pD.sets h.par (fun k hk => ?_), h.low.trans hbl, h.fF, fun k hk => ?_, fun j => ?_⟩⟩
  · rcases hk with (h3 | h3) | h3
    · exact Or.inl (Or.inl h3)
    · rcases hat' k h3 with h4 | h4
      · exact Or.inl (Or.inl (h.df.nF k h4).1)
      · exact Or.inr h4
    · exact Or.inl (Or.inr h3)
  · rcases hk with h3 | h3
    · exact h.dF k h3
    · rcases hat' k h3 with h4 | h4
      · exact h.dF k (h.df.nF k h4).1
      · exact Nat.le_trans h.low.size h4
  · rw [getD_snoc]
    split
    · exact hxr
    · exact h.offR j
/-- behind the append of what a state accepts -/
theorem BldS.acc2 {B mb mm db rb : Nat} {w0 w w2 : World} {F D : Nat → Prop} {tv nv av pv : Value} {vs : List Value} {L : List Txt} {P : List W4} {N : List (List Int)} {A A' : List Int} (h : BldS B mb mm db rb w0 w F D tv nv av pv vs L P N A) {g n cap : Nat}
    (ho : Own w2 B (.slice (some ⟨g, 0, none⟩) n cap) A') (hg : w.grownBy w2 av.ownBlock) (hat : av.ownBlock = some g ∨ g = w.heap.size) :
    ∃ D2, BldS B mb mm db rb w0 (w2.setCell ⟨db, 1, none⟩ (.slice (some ⟨g, 0, none⟩) n cap)) F D2 tv nv (.slice (some ⟨g, 0, none⟩) n cap) pv vs L P N A' := by
  have hat' : ∀ k, (Value.slice (some ⟨g, 0, none⟩) n cap).ownBlock = some k → av.ownBlock = some k ∨ w.heap.size ≤ k := fun k e => by
    have e1 : g = k := by injection e
    subst e1
    rcases hat with h1 | h1
    · exact Or.inl h1
    · exact Or.inr (by omega)
  obtain ⟨h1, h2⟩ := h.df.addAcc h.me.lt ho hg hat'
  have hbl : Below w0.heap.size w (w2.setCell ⟨db, 1, none⟩ (.slice (some ⟨g, 0, none⟩) n cap)) := h2.below h.dF h.low.size
  refine ⟨_, ⟨h.me.kept h2 (fun k hf hd => h.df.apart k hd hf), h1, h.par.kept h2 (fun ad n c e hn hd => h.pD ad n c e hn (Or.inl hd)), h.pD.sets h.par (fun k hk => ?_), h.low.trans hbl, h.fF, fun k hk => ?_, h.offR⟩⟩
  · rcases hk with (h3 | h3) | h3
    · exact Or.inl (Or.inl h3)
    · rcases hat' k h3 with h4 | h4
      · exact Or.inl (Or.inl (h.df.aF k h4).1)
      · exact Or.inr h4
    · exact Or.inl (Or.inr h3)
  · rcases hk with h3 | h3
    · exact h.dF k h3
    · rcases hat' k h3 with h4 | h4
      · exact h.dF k (h.df.aF k h4).1
      · exact Nat.le_trans h.low.size h4
/-- the walk's letters: the states, the rows and what they accept -/
structure BldQ (mets : Nat → List Txt) (nxt : Nat → List (List Int)) (acc : Nat → List Int) (row : Nat → List Int) (an : Nat → Int) (T : Nat → Txt) : Prop where
  one : (mets 0).length = 1
  nxt0 : nxt 0 = []
  acc0 : acc 0 = []
  nxtS : ∀ n, nxt (n + 1) = nxt n ++ [row n]
  accS : ∀ n, acc (n + 1) = acc n ++ [an n]
  at' : ∀ n, n < (mets n).length → (mets (n + 1))[n]? = some (T n)
  mono : ∀ n, (mets n).length ≤ (mets (n + 1)).length
  more : ∀ n, (mets (n + 1)).length ≤ (mets n).length + 256
  rlen : ∀ n, (row n).length = 256
  nlen : ∀ n, (nxt n).length = n
  alen : ∀ n, (acc n).length = n

end Go.Proofs.YtonlcnmlklaicaaGreatDoor
namespace Go.Proofs.YtonlcnmlklaicaaGreatDoor
open Go.RowKit

structure BldC (ts : List Rx) (w1 : World) (sv bv fv : Value) (mets : Nat → List Txt) (nxt : Nat → List (List Int)) (acc : Nat → List Int) (row : Nat → List Int) (an : Nat → Int) (T : Nat → Txt) (T0 : Txt) (S : List W4) : Prop where
  q : BldQ mets nxt acc row an T
  zero : mets 0 = [T0]
  sets : Sets w1 sv S
  few : S.length ≤ 1000
  t0 : T0.length ≤ 2000
  state : ∀ u, Below w1.heap.size w1 u → Calls Tryz.prog 28 #[.agg #[.int .i64 (ts.length : Int), sv, bv, fv], fv] u fun r w' => r = .returned (.string (strT T0)) ∧ Below u.heap.size u w'
  rowC : ∀ n F tv u B mb mm pv, n < (mets n).length → (mets n).length ≤ 240 → Below w1.heap.size w1 u → MeO B mb F u tv mm (mets n) → (∀ k, F k → w1.heap.size ≤ k) → Sets u pv (partsB S) → Off F pv → Calls Tryz.prog 30 #[.agg #[.int .i64 (ts.length : Int), sv, bv, fv], .pointer (some ⟨mb, 0, none⟩), .int .i64 (n : Int), pv] u fun z w' => ∃ rv, z = .returned rv ∧ RowRes B mb mm F u w' (mets (n + 1)) rv (row n)
  accC : ∀ n u, n < (mets n).length → Calls Tryz.prog 31 #[.agg #[.int .i64 (ts.length : Int), sv, bv, fv], .string (strT (T n))] u fun r w' => r = .returned (.int .i64 (an n)) ∧ Below u.heap.size u w'
  fin : ∃ all, SpAll ts all ∧ (∀ n, (mets n).length = (stsK all n).length) ∧ nxt = nxtK all ∧ acc = accK all
theorem idx_first {T : Txt} {R : Nat} (hR : R ≤ T.length) : (Lib.indexByte (T.take R) 1 = -1 ∧ ∀ s, s < R → T.getD s 0 ≠ 1) ∨ ∃ r : Nat, r < R ∧ Lib.indexByte (T.take R) 1 = (r : Int) ∧ T.getD r 0 = 1 ∧ ∀ s, s < r → T.getD s 0 ≠ 1 := by
  have hge := Lib.indexByte_ge (T.take R) 1
  have hget : ∀ s, s < R → (T.take R)[s]? = some (T.getD s 0) := fun s hs => by
    rw [List.getElem?_take, if_pos hs, List.getD_eq_getElem?_getD, List.getElem?_eq_getElem (show s < T.length by omega)]
    rfl
  by_cases e : Lib.indexByte (T.take R) 1 = -1
  · refine Or.inl ⟨e, fun s hs h1 => ?_⟩
    have := Lib.indexByte_none e s
    rw [hget s hs, h1] at this
    exact this rfl
  · obtain ⟨r, hr⟩ : ∃ r : Nat, Lib.indexByte (T.take R) 1 = (r : Int) := ⟨(Lib.indexByte (T.take R) 1).toNat, by omega⟩
    obtain ⟨h1, h2⟩ := Lib.indexByte_some hr
    have hrR : r < R := by
      rcases Nat.lt_or_ge r R with h | h
      · exact h
      · rw [List.getElem?_eq_none (by rw [List.length_take]; omega)] at h1
        cases h1
    refine Or.inr ⟨r, hrR, hr, ?_, fun s hs h3 => ?_⟩
    · rw [hget r hrR] at h1
      injection h1
    · have := h2 s hs
      rw [hget s (by omega), h3] at this
      exact this rfl
theorem acc_idx {ts : List Rx} {all : List Sp} (R : RuS ts all) {st : St} (hs : ∀ x ∈ st, FrmS ts x) (hu : Up st) : Lib.indexByte ((txS all st).take ts.length) 1 = accS st := by
  have hl : ts.length ≤ (txS all st).length := by
    unfold txS
    rw [markT_len, ← R.len]
    exact offP_low all all.length
  rcases idx_first hl with ⟨e, h⟩ | ⟨r, hr, e, h1, h2⟩
  · rw [e, accT_none R hs (fun s hs' => h s (by rw [← R.len]; exact hs'))]
  · rw [e, accT_some R hs hu (by rw [R.len]; exact hr) h1 h2]
theorem sts_at {all : List Sp} {n : Nat} (h : n < (stsK all n).length) : (stsK all n)[n]? = some ((stsK all n).getD n []) := by
  rw [List.getD_eq_getElem?_getD, List.getElem?_eq_getElem h]
  rfl
theorem row_len2 (all : List Sp) (st : St) (S : List St) (hS : S.Nodup) : (rowK all st S 256).2.length = 256 := (rowK_is all st S hS 256).len
theorem row_more (all : List Sp) (st : St) (S : List St) : ∀ b, (rowK all st S b).1.length ≤ S.length + b
  | 0 => Nat.le_refl _
  | b + 1 => by
    have ih := row_more all st S b
    rcases rowK_cases all st S b with ⟨_, e⟩ | ⟨_, _, e⟩ | ⟨_, _, e⟩ <;> rw [e]
    · exact Nat.le_succ_of_le ih
    · exact Nat.le_succ_of_le ih
    · simp only [List.length_append, List.length_singleton]
      omega
theorem bldQ_of {all : List Sp} : BldQ (fun n => (stsK all n).map (txS all)) (nxtK all) (accK all) (fun n => (rowK all ((stsK all n).getD n []) (stsK all n) 256).2) (fun n => accS ((stsK all n).getD n [])) (fun n => txS all ((stsK all n).getD n [])) where
  one := by simp [stsK]
  nxt0 := rfl
  acc0 := rfl
  nxtS := fun n => by rw [nxtK]
  accS := fun n => by rw [accK]
  at' := fun n hn => by
    rw [List.length_map] at hn
    obtain ⟨U, hU⟩ := stsK_mono all n 1
    rw [List.getElem?_map, hU, List.getElem?_append_left hn, sts_at hn]
    rfl
  mono := fun n => by
    obtain ⟨U, hU⟩ := stsK_mono all n 1
    rw [List.length_map, List.length_map, hU, List.length_append]
    omega
  more := fun n => by
    rw [List.length_map, List.length_map, stsK]
    exact row_more all _ _ 256
  rlen := fun n => row_len2 all _ _ (stsK_nd all n)
  nlen := nxtK_len all
  alen := accK_len all
set_option maxHeartbeats 1000000 in
theorem build_facts (ts : List Rx) (w1 : World) (sv bv fv : Value) (hok : ∀ t ∈ ts, t.ok ∧ (post t).length ≤ 60) (hn : ts.length ≤ 16) (hT : Tab w1) (hPl : PlR ts w1 sv bv fv) : ∃ mets nxt acc row an T T0 S, BldC ts w1 sv bv fv mets nxt acc row an T T0 S := by
  obtain ⟨all, hAll, hS, hG, hf⟩ := hPl
  have R := hAll.ru (fun t ht => (hok t ht).2)
  have hp := hAll.sml (fun t ht => (hok t ht).2)
  have hl : all.length ≤ 16 := by rw [hAll.len]; exact hn
  have htot := totP_max hl hp
  have hSl : (setsP all all.length).length = totP all := setsP_len all _
  have hfir : firP all all.length = (firstS all all.length).map (plOf all) := firP_is R _ (by rw [hAll.len]; exact Nat.le_refl _)
  have hfin : ∀ x ∈ firP all all.length, 0 ≤ x ∧ x < (totP all : Int) := fun x hx => by
    rw [hfir, List.mem_map] at hx
    obtain ⟨y, hy, rfl⟩ := hx
    exact plOf_in (frP_of R (first_frm R y hy))
  have hfl : (firP all all.length).length ≤ 1000000 := by
    rw [hfir, List.length_map]
    have := firstS_len hp all.length (Nat.le_refl _)
    omega
  have hst : ∀ n, ∀ x ∈ stsK all n, (∀ y ∈ x, FrmS ts y) ∧ Up x := fun n x hx => ⟨stsK_frm R n x hx, stsK_up R n x hx⟩
  obtain ⟨sa, sc, rfl, _⟩ := sets_at hS
  obtain ⟨ba, bc, rfl, _⟩ := numss_at hG
  obtain ⟨fa, fc, rfl⟩ : ∃ a c, fv = .slice a (firP all all.length).length c := by obtain ⟨a, c, e, _⟩ := hf; exact ⟨a, c, e⟩
  refine ⟨_, _, _, _, _, _, txS all (firstS all all.length), setsP all all.length, bldQ_of (all := all), by simp [stsK], hS, by omega, by unfold txS; rw [markT_len]; omega, fun u hu => ?_, fun n F tv u B mb mm pv h1 h2 hu hm hF hpar hpo => ?_, fun n u h1 => ?_, ⟨all, hAll, fun n => List.length_map _, rfl, rfl⟩⟩
  · have := stateC (ts.length : Int) sa (setsP all all.length).length sc (.slice ba (behP all all.length).length bc) (.slice fa (firP all all.length).length fc) (.slice fa (firP all all.length).length fc) (firP all all.length) u (by omega) hfl (by rw [hSl]; exact hfin) (hf.keep hu)
    rw [hSl] at this
    rw [hSl]
    unfold txS
    rw [← hfir]
    exact this
  · rw [List.length_map] at h1 h2
    have hmem : (stsK all n).getD n [] ∈ stsK all n := List.mem_of_getElem? (sts_at h1)
    have hstn := hst n _ hmem
    obtain ⟨pa, pc, rfl, hpat⟩ := sets_at hpar
    obtain ⟨pl1, pl2⟩ := partsB_at (setsP all all.length)
    have hq := rowQ_of R hstn.1 (stsK_nd all n) (rfl : rowK all ((stsK all n).getD n []) (stsK all n) 256 = _)
    rw [pl1]
    have hnext : (rowK all ((stsK all n).getD n []) (stsK all n) 256).1 = stsK all (n + 1) := rfl
    have := rowOfW hq (txS all) (txS all ((stsK all n).getD n [])) (ts.length : Int) sa ba fa pa (setsP all all.length).length sc (behP all all.length).length bc (firP all all.length).length fc pc tv B mb mm n F w1 u hu
      (fun k hk u' hu' => byRow R hp hl (ts.length : Int) _ _ _ _ hstn.1 _ (hq.least k hk).1 u' (hS.keep hu') (hG.keep hu'))
      (fun a0 a1 a2 a3 u' hfit hu' => leastC a0 a1 a2 a3 u' hfit (hT.keep hu'))
      (fun k F' tv' u' hk hne hm' => by
        have hL := prt_frm R hstn.1 (hst n) (repN (setsP all all.length) 256) k
        have := numRow R (by omega) B mb mm F' tv' _ _ u' hL (prtK_nd all _ (stsK_nd all n) _ k) (by have := prtK_len all ((stsK all n).getD n []) (stsK all n) (repN (setsP all all.length) 256) k; have := hq.m256; omega) ⟨by_frm R hstn.1 _, byS_up _ _ _⟩ hne hm'
        exact this)
      hm hF (by rw [List.getElem?_map, sts_at h1]; rfl) h2
      (fun k hk => by
        obtain ⟨b, o, e1, h3, hfit, h4⟩ := hpat k (by rw [pl1]; exact hk)
        rw [pl2 k hk] at h4
        exact ⟨b, o, e1, h3, hpo _ _ _ (by rw [e1]) (by rw [pl1]; omega), h4⟩)
    exact this
  · rw [List.length_map] at h1
    have hmem : (stsK all n).getD n [] ∈ stsK all n := List.mem_of_getElem? (sts_at h1)
    have hstn := hst n _ hmem
    have := acceptP ts.length (.slice sa (setsP all all.length).length sc) (.slice ba (behP all all.length).length bc) (.slice fa (firP all all.length).length fc) (txS all ((stsK all n).getD n [])) u (by unfold txS; rw [markT_len, ← R.len]; exact offP_low all all.length) (by unfold txS; rw [markT_len]; omega)
    rw [acc_idx R hstn.1 hstn.2] at this
    exact this

end Go.Proofs.YtonlcnmlklaicaaGreatDoor
namespace Go.Proofs.YtonlcnmlklaicaaGreatDoor
open Go.RowKit

set_option maxRecDepth 20000 in
set_option maxHeartbeats 1000000 in
theorem andC (sa sb sc sd ta tb tc td : Nat) (w : World) (hS : Fit4 ⟨sa, sb, sc, sd⟩) (hT : Fit4 ⟨ta, tb, tc, td⟩) :
    Calls Tryz.prog 57 #[valB ⟨sa, sb, sc, sd⟩, valB ⟨ta, tb, tc, td⟩] w fun e w' => e = .returned (valB (andB ⟨sa, sb, sc, sd⟩ ⟨ta, tb, tc, td⟩)) ∧ Below w.heap.size w w' := by
  rw [and_words _ _ hS]
  have k0 := u64_and_nat sa ta hS.1 hT.1
  have k1 := u64_and_nat sb tb hS.2 hT.2
  have k2 := u64_and_nat sc tc hS.3 hT.3
  have k3 := u64_and_nat sd td hS.4 hT.4
  simp only
  generalize sa &&& ta = ra at k0 ⊢
  generalize sb &&& tb = rb at k1 ⊢
  generalize sc &&& tc = rc at k2 ⊢
  generalize sd &&& td = rd at k3 ⊢
  clear hS hT
  have ix0 : ∀ u, (Instr.index 65 (.agg #[.int .u64 (ta : Int), .int .u64 (tb : Int), .int .u64 (tc : Int), .int .u64 (td : Int)]) (.int .i64 0)).run Tryz.prog u = .ok (.int .u64 (ta : Int)) u := fun u => index4 ta tb tc td 0 ta u rfl
  have ix1 : ∀ u, (Instr.index 65 (.agg #[.int .u64 (ta : Int), .int .u64 (tb : Int), .int .u64 (tc : Int), .int .u64 (td : Int)]) (.int .i64 1)).run Tryz.prog u = .ok (.int .u64 (tb : Int)) u := fun u => index4 ta tb tc td 1 tb u rfl
  have ix2 : ∀ u, (Instr.index 65 (.agg #[.int .u64 (ta : Int), .int .u64 (tb : Int), .int .u64 (tc : Int), .int .u64 (td : Int)]) (.int .i64 2)).run Tryz.prog u = .ok (.int .u64 (tc : Int)) u := fun u => index4 ta tb tc td 2 tc u rfl
  have ix3 : ∀ u, (Instr.index 65 (.agg #[.int .u64 (ta : Int), .int .u64 (tb : Int), .int .u64 (tc : Int), .int .u64 (td : Int)]) (.int .i64 3)).run Tryz.prog u = .ok (.int .u64 (td : Int)) u := fun u => index4 ta tb tc td 3 td u rfl
  go_enter Tryz.func57, Tryz.ntmps57
  go_wp2
  go_loopw [8] (fun i wr => ∃ k : Nat, k ≤ 4 ∧ i = .int .i64 k ∧ Hid (Blk wr w.heap.size (mixW ⟨ra, rb, rc, rd⟩ ⟨sa, sb, sc, sd⟩ k)) ∧ Hid (Blk wr (w.heap.size + 2) noneB) ∧ Below w.heap.size w wr) (fun i _ => 4 - (intOf i).toNat)
  case atStart => exact ⟨0, Nat.zero_le _, rfl, hid (three_blocks w _ _ _).1, hid (three_blocks w _ _ _).2.2, bl_step (bl_step (al' w _) (al' _ _)) (al' _ _)⟩
  case round =>
    obtain ⟨k, hk, rfl, bS0, bR0, hbl⟩ := hrel
    have hk5 : k = 0 ∨ k = 1 ∨ k = 2 ∨ k = 3 ∨ k = 4 := by omega
    rcases hk5 with rfl | rfl | rfl | rfl | rfl
    · have bS0' : Blk wr w.heap.size ⟨sa, sb, sc, sd⟩ := bS0.out
      obtain ⟨s0, s1, s2, s3, s4, s5, s6, s7⟩ := bS0'.cells
      have bS1 : Blk (wr.setCell ⟨w.heap.size, 0, none⟩ (.int .u64 (ra : Int))) w.heap.size ⟨ra, sb, sc, sd⟩ := heap_setCell bS0'
      have bR1 : Blk (wr.setCell ⟨w.heap.size, 0, none⟩ (.int .u64 (ra : Int))) (w.heap.size + 2) noneB := (Below.heap_setCell _ _ _ _ (by simp)).trans bR0.out
      have bS1 := hid bS1
      have bR1 := hid bR1
      clear bS0'
      go_wp2
      go_roundw
      case rel => exact ⟨1, by omega, rfl, bS1, bR1, bl_set hbl _ _ _ (Nat.le_refl _)⟩
      case measure => simp [intOf]
    · have bS0' : Blk wr w.heap.size ⟨ra, sb, sc, sd⟩ := bS0.out
      obtain ⟨s0, s1, s2, s3, s4, s5, s6, s7⟩ := bS0'.cells
      have bS1 : Blk (wr.setCell ⟨w.heap.size, 1, none⟩ (.int .u64 (rb : Int))) w.heap.size ⟨ra, rb, sc, sd⟩ := heap_setCell bS0'
      have bR1 : Blk (wr.setCell ⟨w.heap.size, 1, none⟩ (.int .u64 (rb : Int))) (w.heap.size + 2) noneB := (Below.heap_setCell _ _ _ _ (by simp)).trans bR0.out
      have bS1 := hid bS1
      have bR1 := hid bR1
      clear bS0'
      go_wp2
      go_roundw
      case rel => exact ⟨2, by omega, rfl, bS1, bR1, bl_set hbl _ _ _ (Nat.le_refl _)⟩
      case measure => simp [intOf]
    · have bS0' : Blk wr w.heap.size ⟨ra, rb, sc, sd⟩ := bS0.out
      obtain ⟨s0, s1, s2, s3, s4, s5, s6, s7⟩ := bS0'.cells
      have bS1 : Blk (wr.setCell ⟨w.heap.size, 2, none⟩ (.int .u64 (rc : Int))) w.heap.size ⟨ra, rb, rc, sd⟩ := heap_setCell bS0'
      have bR1 : Blk (wr.setCell ⟨w.heap.size, 2, none⟩ (.int .u64 (rc : Int))) (w.heap.size + 2) noneB := (Below.heap_setCell _ _ _ _ (by simp)).trans bR0.out
      have bS1 := hid bS1
      have bR1 := hid bR1
      clear bS0'
      go_wp2
      go_roundw
      case rel => exact ⟨3, by omega, rfl, bS1, bR1, bl_set hbl _ _ _ (Nat.le_refl _)⟩
      case measure => simp [intOf]
    · have bS0' : Blk wr w.heap.size ⟨ra, rb, rc, sd⟩ := bS0.out
      obtain ⟨s0, s1, s2, s3, s4, s5, s6, s7⟩ := bS0'.cells
      have bS1 : Blk (wr.setCell ⟨w.heap.size, 3, none⟩ (.int .u64 (rd : Int))) w.heap.size ⟨ra, rb, rc, rd⟩ := heap_setCell bS0'
      have bR1 : Blk (wr.setCell ⟨w.heap.size, 3, none⟩ (.int .u64 (rd : Int))) (w.heap.size + 2) noneB := (Below.heap_setCell _ _ _ _ (by simp)).trans bR0.out
      have bS1 := hid bS1
      have bR1 := hid bR1
      clear bS0'
      go_wp2
      go_roundw
      case rel => exact ⟨4, by omega, rfl, bS1, bR1, bl_set hbl _ _ _ (Nat.le_refl _)⟩
      case measure => simp [intOf]
    · obtain ⟨o0, o1, o2, o3, o4, o5, o6, o7⟩ := Blk.cells (show Blk wr w.heap.size ⟨ra, rb, rc, rd⟩ from bS0.out)
      obtain ⟨r0, r1, r2, r3, r4, r5, r6, r7⟩ := Blk.cells (sa := 0) (sb := 0) (sc := 0) (sd := 0) bR0.out
      go_wp2
      refine bodyPost_ret (v := .agg #[.int .u64 ra, .int .u64 rb, .int .u64 rc, .int .u64 rd]) (by simp [results, Tryz.results57, go_sem, r0, r1, r2, r3]) rfl ⟨rfl, bl_put hbl ⟨ra, rb, rc, rd⟩ (by omega)⟩

end Go.Proofs.YtonlcnmlklaicaaGreatDoor
namespace Go.Proofs.YtonlcnmlklaicaaGreatDoor

theorem and_has (S T : W4) (x : Nat) (hx : x < 256) : hasB (andB S T) x = (hasB S x && hasB T x) := by unfold andB; rw [mkB_has _ x hx]
theorem not_has (S : W4) (x : Nat) (hx : x < 256) : hasB (notB S) x = !hasB S x := by unfold notB; rw [mkB_has _ x hx]
theorem and_fit (S T : W4) : Fit4 (andB S T) := by unfold andB; exact mkB_fit _
theorem cls_fit (l : List W4) (r : Nat) : Fit4 (clsB l r) := by unfold clsB; exact mkB_fit _
attribute [local irreducible] andB notB clsB noneB hasB
/-- is a part left whole? -/
def idleQ (S P : W4) : Bool := decide (andB P S = noneB) || decide (andB P S = P)
def headQ (S P : W4) : W4 := if idleQ S P then P else andB P S
def tailQ (S P : W4) : List W4 := if idleQ S P then [] else [andB P (notB S)]
def splitL (S : W4) (l : List W4) : List W4 := l.map (headQ S) ++ l.flatMap (tailQ S)
/-- .. behind the first i of them -/
def splitI (S : W4) (l : List W4) (i : Nat) : List W4 := (l.take i).map (headQ S) ++ l.drop i ++ (l.take i).flatMap (tailQ S)
theorem splitI_zero (S : W4) (l : List W4) : splitI S l 0 = l := by simp [splitI]
theorem splitI_end (S : W4) (l : List W4) (i : Nat) (hi : l.length ≤ i) : splitI S l i = splitL S l := by
  unfold splitI splitL
  rw [List.take_of_length_le hi, List.drop_of_length_le hi, List.append_nil]
theorem splitI_idle (S : W4) (l : List W4) (i : Nat) (hi : i < l.length) (h : idleQ S l[i] = true) : splitI S l (i + 1) = splitI S l i := by
  unfold splitI
  rw [List.take_succ_eq_append_getElem hi, List.map_append, List.flatMap_append, List.drop_eq_getElem_cons hi]
  simp [headQ, tailQ, h]
theorem splitI_cut (S : W4) (l : List W4) (i : Nat) (hi : i < l.length) (h : idleQ S l[i] = false) : splitI S l (i + 1) = (splitI S l i).set i (andB l[i] S) ++ [andB l[i] (notB S)] := by
  unfold splitI
  rw [List.take_succ_eq_append_getElem hi, List.map_append, List.flatMap_append, List.drop_eq_getElem_cons hi]
  have hl : ((l.take i).map (headQ S)).length = i := by rw [List.length_map, List.length_take]; omega
  generalize List.map (headQ S) (l.take i) = A at hl ⊢
  generalize List.flatMap (tailQ S) (l.take i) = B
  have e : ((A ++ l[i] :: List.drop (i + 1) l) ++ B).set i (andB l[i] S) = (A ++ andB l[i] S :: List.drop (i + 1) l) ++ B := by
    rw [List.append_assoc, List.set_append_right _ _ (by omega), hl, Nat.sub_self, List.append_assoc]
    rfl
  rw [e]
  simp [headQ, tailQ, h]
theorem splitI_len (S : W4) (l : List W4) (i : Nat) (hi : i ≤ l.length) : l.length ≤ (splitI S l i).length := by
  unfold splitI
  simp
  omega
theorem splitI_more (S : W4) (l : List W4) : ∀ i, i ≤ l.length → (splitI S l i).length ≤ l.length + i
  | 0, _ => by rw [splitI_zero]; omega
  | i + 1, hi => by
    have ih := splitI_more S l i (by omega)
    cases h : idleQ S l[i] with
    | true => rw [splitI_idle S l i (by omega) h]; omega
    | false => rw [splitI_cut S l i (by omega) h]; simp; omega
theorem splitI_at (S : W4) (l : List W4) (i j : Nat) (hi : i ≤ j) (hj : j < l.length) : (splitI S l i)[j]? = some l[j] := by
  unfold splitI
  have hl : ((l.take i).map (headQ S)).length = i := by rw [List.length_map, List.length_take]; omega
  rw [List.append_assoc, List.getElem?_append_right (by omega), hl, List.getElem?_append_left (by rw [List.length_drop]; omega), List.getElem?_drop]
  rw [show i + (j - i) = j by omega, List.getElem?_eq_getElem hj]
/-- no byte in two -/
def Apart (P Q : W4) : Prop := ∀ x, x < 256 → hasB P x = true → hasB Q x = false
theorem Apart.symm {P Q : W4} (h : Apart P Q) : Apart Q P := fun x hx hq => by
  cases hp : hasB P x with
  | false => rfl
  | true => rw [h x hx hp] at hq; cases hq
structure GoodP (l ps : List W4) : Prop where
  cls : ∀ P ∈ ps, ∃ r, r < 256 ∧ P = clsB l r
  all : ∀ r, r < 256 → clsB l r ∈ ps
  apart : ps.Pairwise Apart
theorem GoodP.fit {l ps : List W4} (h : GoodP l ps) : ∀ P ∈ ps, Fit4 P := fun P hP => by
  obtain ⟨r, _, rfl⟩ := h.cls P hP
  exact cls_fit _ _
theorem goodP_nil : GoodP [] [notB noneB] where
  cls := fun P hP => by rw [List.mem_singleton] at hP; subst hP; exact ⟨0, by omega, (cls_nil 0).symm⟩
  all := fun r _ => by rw [cls_nil]; exact List.mem_singleton.2 rfl
  apart := List.pairwise_singleton _ _

theorem idle_cls {l : List W4} {S : W4} (hS : Fit4 S) {r : Nat} (hr : r < 256) (h : idleQ S (clsB l r) = true) : clsB (l ++ [S]) r = clsB l r := by
  have hself : hasB (clsB l r) r = true := by rw [cls_has l r r hr]; exact al_refl l r
  have hfit : Fit4 (clsB l r) := cls_fit l r
  rw [cls_snoc l S hS]
  unfold idleQ at h
  rw [Bool.or_eq_true, decide_eq_true_iff, decide_eq_true_iff] at h
  rcases h with h | h
  · have hno : ∀ x, x < 256 → (hasB (clsB l r) x && hasB S x) = false := fun x hx => by rw [← and_has _ _ x hx, h, noneB_has]
    have hr0 : hasB S r = false := by have := hno r hr; rw [hself] at this; simpa using this
    rw [hr0]
    refine set_ext (and_fit _ _) hfit fun x hx => ?_
    simp only [Bool.false_eq_true, if_false]
    rw [and_has _ _ x hx, not_has _ x hx]
    have := hno x hx
    revert this
    cases hasB (clsB l r) x <;> cases hasB S x <;> simp
  · have hyes : ∀ x, x < 256 → (hasB (clsB l r) x && hasB S x) = hasB (clsB l r) x := fun x hx => by rw [← and_has _ _ x hx, h]
    have hr0 : hasB S r = true := by have := hyes r hr; rw [hself] at this; simpa using this
    rw [hr0]
    simpa using h
theorem cut_cls {l : List W4} {S : W4} (hS : Fit4 S) {r : Nat} : clsB (l ++ [S]) r = andB (clsB l r) S ∨ clsB (l ++ [S]) r = andB (clsB l r) (notB S) := by
  rw [cls_snoc l S hS]
  cases hasB S r
  · rw [if_neg Bool.false_ne_true]; exact Or.inr rfl
  · rw [if_pos rfl]; exact Or.inl rfl
/-- a set that isn't empty has a byte -/
theorem some_byte {P : W4} (hP : Fit4 P) (h : P ≠ noneB) : ∃ x, x < 256 ∧ hasB P x = true :=
  Classical.byContradiction fun hn => h (set_ext hP noneB_fit fun x hx => by
    rw [noneB_has]
    cases hx' : hasB P x with
    | false => rfl
    | true => exact absurd ⟨x, hx, hx'⟩ hn)
theorem cut_both {l : List W4} {S : W4} (hS : Fit4 S) {r : Nat} (h : idleQ S (clsB l r) = false) :
    (∃ x, x < 256 ∧ andB (clsB l r) S = clsB (l ++ [S]) x) ∧ ∃ x, x < 256 ∧ andB (clsB l r) (notB S) = clsB (l ++ [S]) x := by
  have hfit : Fit4 (clsB l r) := cls_fit l r
  unfold idleQ at h
  rw [Bool.or_eq_false_iff, decide_eq_false_iff_not, decide_eq_false_iff_not] at h
  constructor
  · obtain ⟨x, hx, hh⟩ := some_byte (and_fit _ _) h.1
    rw [and_has _ _ x hx, Bool.and_eq_true, cls_has l r x hx] at hh
    exact ⟨x, hx, by rw [cls_snoc l S hS, hh.2, cls_same hh.1, if_pos rfl]⟩
  · have hne : andB (clsB l r) (notB S) ≠ noneB := fun e => h.2 (set_ext (and_fit _ _) hfit fun x hx => by
      have h1 : (hasB (clsB l r) x && !hasB S x) = false := by rw [← not_has S x hx, ← and_has _ _ x hx, e, noneB_has]
      rw [and_has _ _ x hx]
      revert h1
      cases hasB (clsB l r) x <;> cases hasB S x <;> simp)
    obtain ⟨x, hx, hh⟩ := some_byte (and_fit _ _) hne
    rw [and_has _ _ x hx, not_has S x hx, Bool.and_eq_true, cls_has l r x hx] at hh
    have h0 : hasB S x = false := by simpa using hh.2
    exact ⟨x, hx, by rw [cls_snoc l S hS, h0, cls_same hh.1, if_neg Bool.false_ne_true]⟩
theorem head_sub (S P : W4) (x : Nat) (hx : x < 256) (h : hasB (headQ S P) x = true) : hasB P x = true := by
  unfold headQ at h
  split at h
  · exact h
  · rw [and_has _ _ x hx, Bool.and_eq_true] at h; exact h.1
theorem tail_sub {S P T : W4} (hT : T ∈ tailQ S P) (x : Nat) (hx : x < 256) (h : hasB T x = true) : hasB P x = true := by
  unfold tailQ at hT
  split at hT
  · cases hT
  · rw [List.mem_singleton] at hT
    subst hT
    rw [and_has _ _ x hx, Bool.and_eq_true] at h; exact h.1
theorem head_tail {S P T : W4} (hT : T ∈ tailQ S P) : Apart (headQ S P) T := fun x hx h => by
  unfold tailQ at hT
  unfold headQ at h
  cases hi : idleQ S P with
  | true => rw [hi] at hT; simp at hT
  | false =>
    rw [hi] at hT h
    simp only [Bool.false_eq_true, if_false, List.mem_singleton] at hT h
    subst hT
    rw [and_has _ _ x hx, Bool.and_eq_true] at h
    rw [and_has _ _ x hx, not_has _ x hx, h.2]
    simp
theorem Apart.sub {P Q P' Q' : W4} (h : Apart P Q) (hp : ∀ x, x < 256 → hasB P' x = true → hasB P x = true) (hq : ∀ x, x < 256 → hasB Q' x = true → hasB Q x = true) : Apart P' Q' := fun x hx h' => by
  have h1 := h x hx (hp x hx h')
  cases h2 : hasB Q' x with
  | false => rfl
  | true => rw [hq x hx h2] at h1; cases h1
theorem apart_of {ps : List W4} (h : ps.Pairwise Apart) {P Q : W4} (hP : P ∈ ps) (hQ : Q ∈ ps) (hne : P ≠ Q) : Apart P Q := by
  obtain ⟨i, hi, rfl⟩ := List.mem_iff_getElem.1 hP
  obtain ⟨j, hj, rfl⟩ := List.mem_iff_getElem.1 hQ
  rcases Nat.lt_trichotomy i j with h' | h' | h'
  · exact List.pairwise_iff_getElem.1 h i j hi hj h'
  · subst h'; exact absurd rfl hne
  · exact (List.pairwise_iff_getElem.1 h j i hj hi h').symm
theorem split_apart (S : W4) : ∀ ps : List W4, ps.Pairwise Apart → (splitL S ps).Pairwise Apart := fun ps h => by
  unfold splitL
  rw [List.pairwise_append]
  refine ⟨?_, ?_, ?_⟩
  · rw [List.pairwise_map]
    exact h.imp fun {P Q} hpq => hpq.sub (head_sub S P) (head_sub S Q)
  · rw [List.pairwise_flatMap]
    refine ⟨fun P _ => ?_, h.imp fun {P Q} hpq => fun T hT U hU => hpq.sub (fun x hx hh => tail_sub hT x hx hh) (fun x hx hh => tail_sub hU x hx hh)⟩
    unfold tailQ
    split
    · exact List.Pairwise.nil
    · exact List.pairwise_singleton _ _
  · intro A hA B hB
    obtain ⟨P, hP, rfl⟩ := List.mem_map.1 hA
    obtain ⟨Q, hQ, hB⟩ := List.mem_flatMap.1 hB
    by_cases e : P = Q
    · subst e; exact head_tail hB
    · have : Apart P Q := apart_of h hP hQ e
      exact this.sub (head_sub S P) (tail_sub hB)
theorem GoodP.split {l ps : List W4} (h : GoodP l ps) {S : W4} (hS : Fit4 S) : GoodP (l ++ [S]) (splitL S ps) where
  cls := fun A hA => by
    unfold splitL at hA
    rw [List.mem_append, List.mem_map, List.mem_flatMap] at hA
    rcases hA with ⟨P, hP, rfl⟩ | ⟨P, hP, hA⟩
    · obtain ⟨r, hr, rfl⟩ := h.cls P hP
      unfold headQ
      cases hi : idleQ S (clsB l r) with
      | true => simp only [if_true]; exact ⟨r, hr, (idle_cls hS hr hi).symm⟩
      | false => simp only [Bool.false_eq_true, if_false]; exact (cut_both hS hi).1
    · obtain ⟨r, hr, rfl⟩ := h.cls P hP
      unfold tailQ at hA
      cases hi : idleQ S (clsB l r) with
      | true => rw [hi] at hA; simp at hA
      | false =>
        rw [hi] at hA
        simp only [Bool.false_eq_true, if_false, List.mem_singleton] at hA
        subst hA
        exact (cut_both hS hi).2
  all := fun r hr => by
    have hm := h.all r hr
    unfold splitL
    rw [List.mem_append, List.mem_map, List.mem_flatMap]
    cases hi : idleQ S (clsB l r) with
    | true =>
      rw [idle_cls hS hr hi]
      exact Or.inl ⟨clsB l r, hm, by unfold headQ; rw [hi, if_pos rfl]⟩
    | false =>
      rcases cut_cls (l := l) hS (r := r) with e | e
      · exact Or.inl ⟨clsB l r, hm, by unfold headQ; rw [hi, e, if_neg Bool.false_ne_true]⟩
      · exact Or.inr ⟨clsB l r, hm, by unfold tailQ; rw [hi, e, if_neg Bool.false_ne_true]; exact List.mem_singleton.2 rfl⟩
  apart := split_apart S ps h.apart

theorem GoodP.least {l ps : List W4} (h : GoodP l ps) : ∀ P ∈ ps, ∃ m : Nat, m < 256 ∧ leastB P = (m : Int) ∧ hasB P m = true := fun P hP => by
  obtain ⟨r, hr, rfl⟩ := h.cls P hP
  obtain ⟨q, hq, e⟩ := List.mem_map.1 (parts_mem l r hr)
  rw [← e]
  have hq2 := repN_lt l 256 q hq
  exact ⟨q, hq2, least_cls l q hq, by rw [cls_has l q q hq2]; exact al_refl l q⟩
/-- good parts, sorted by their least bytes: the one list -/
theorem GoodP.sorted {l ps qs : List W4} (h : GoodP l ps) (hp : qs.Perm ps) (hs : qs.Pairwise (fun P Q => leastB P ≤ leastB Q)) : qs = partsB l := by
  have ha : qs.Pairwise Apart := (hp.pairwise_iff (fun {P Q} h => h.symm)).2 h.apart
  refine parts_uniq (fun P hP => h.cls P (hp.mem_iff.1 hP)) (fun r hr => hp.mem_iff.2 (h.all r hr)) ?_
  refine (hs.and ha).imp_of_mem fun {P Q} hP hQ hpq => ?_
  obtain ⟨m, hm, em, bm⟩ := h.least P (hp.mem_iff.1 hP)
  obtain ⟨n, hn, en, bn⟩ := h.least Q (hp.mem_iff.1 hQ)
  have hle := hpq.1
  rw [em, en] at hle ⊢
  rcases Nat.lt_or_ge m n with h' | h'
  · omega
  · have e : m = n := by omega
    subst e
    rw [hpq.2 m hm bm] at bn
    cases bn
theorem GoodP.len {l ps : List W4} (h : GoodP l ps) : ps.length ≤ 256 := by
  have hp := List.mergeSort_perm ps (fun P Q => decide (leastB P ≤ leastB Q))
  have hs := List.pairwise_mergeSort (le := fun P Q => decide (leastB P ≤ leastB Q)) (fun a b c h1 h2 => by simp at *; omega) (fun a b => by simp; omega) ps
  have e := h.sorted hp (hs.imp fun h => by simpa using h)
  have hl := hp.length_eq
  rw [e] at hl
  have h2 : (partsB l).length ≤ 256 := by unfold partsB; rw [List.length_map]; exact repN_len l 256
  omega

end Go.Proofs.YtonlcnmlklaicaaGreatDoor
