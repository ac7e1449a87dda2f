/- DiffParts: counts. DiffParts: the walk. DiffParts: the walk, of any two grammars. -/
import Derived.Test.YtloaikjealcbmaaGreatJB
import Derived.BigRegion
namespace Go.Proofs.YtloaikjealcbmaaGreat
open Go.RowKit Go.Maps Go.Sort

/-- how often each number below n stands in a list -/
def cntL (n : Nat) (l : List Int) : List Int := (List.range n).map fun i : Nat => ((l.count (i : Int) : Nat) : Int)
theorem cntL_len (n : Nat) (l : List Int) : (cntL n l).length = n := by unfold cntL; rw [List.length_map, List.length_range]
theorem cntL_at {n : Nat} {l : List Int} {i : Nat} (h : i < n) : (cntL n l)[i]? = some ((l.count (i : Int) : Nat) : Int) := by
 unfold cntL
 rw [List.getElem?_map, List.getElem?_range h]
 rfl
theorem cntL_zero (n : Nat) : cntL n [] = List.replicate n 0 := by
 refine List.ext_getElem? (fun i => ?_)
 rcases Nat.lt_or_ge i n with h | h
 · rw [cntL_at h, List.getElem?_replicate, if_pos h]
   rfl
 · rw [List.getElem?_eq_none (by rw [cntL_len]; exact h), List.getElem?_eq_none (by rw [List.length_replicate]; exact h)]
theorem cntL_snoc {n : Nat} {l : List Int} {j : Nat} (hj : j < n) : (cntL n l).set j (((l.count (j : Int) : Nat) : Int) + 1) = cntL n (l ++ [(j : Int)]) := by
 refine List.ext_getElem? (fun i => ?_)
 rcases Nat.lt_or_ge i n with h | h
 · rw [cntL_at h, List.count_append, count_one]
   by_cases e : i = j
   · subst e
     rw [List.getElem?_set_self (by rw [cntL_len]; exact h), if_pos rfl]
     rfl
   · rw [List.getElem?_set_ne (fun e2 => e e2.symm), cntL_at h, if_neg e]
     rfl
 · rw [List.getElem?_eq_none (by rw [List.length_set, cntL_len]; exact h), List.getElem?_eq_none (by rw [cntL_len]; exact h)]
theorem count_le_len (l : List Int) (j : Nat) : l.count (j : Int) ≤ l.length := List.count_le_length
theorem count_once : ∀ {l : List Int} {x : Int}, l.Nodup → x ∈ l → l.count x = 1
 | [], _, _, h => absurd h List.not_mem_nil
 | a :: l, x, hd, h => by
  obtain ⟨h1, h2⟩ := List.nodup_cons.1 hd
  by_cases e : a = x
  · subst e
    rw [List.count_cons_self, List.count_eq_zero_of_not_mem h1]
  · rw [List.count_cons_of_ne e]
    exact count_once h2 ((List.mem_cons.1 h).resolve_left (fun e2 => e e2.symm))
/-- each once -/
theorem once_left (TG TH : List Txt) : ∀ i, i < TG.length → ((dfPrs TG TH).map Prod.fst ++ dfGone TG TH).count (i : Int) = 1 := fun i hi => by
 have h := dfK_good TG TH TH.length
 have e : (dfPrs TG TH).map Prod.fst = (dfK TG TH TH.length).kept := h.fst
 rw [List.count_append, e]
 unfold dfGone
 rw [outL_count]
 by_cases hm : (i : Int) ∈ (dfK TG TH TH.length).kept
 · rw [if_neg (fun k => k.2 hm), count_once h.once hm]
 · rw [if_pos ⟨hi, hm⟩, List.count_eq_zero_of_not_mem hm]
theorem once_right (TG TH : List Txt) : ∀ i, i < TH.length → ((dfPrs TG TH).map Prod.snd ++ dfNew TG TH).count (i : Int) = 1 := fun i hi => by
 have h := (dfK_good TG TH TH.length).snd i
 rw [if_pos hi] at h
 rw [List.count_append]
 exact h
theorem prs_txt (TG TH : List Txt) : ∀ p ∈ dfPrs TG TH, ∃ a b : Nat, p = ((a : Int), (b : Int)) ∧ a < TG.length ∧ b < TH.length ∧ TG.getD a [] = TH.getD b [] := (dfK_good TG TH TH.length).txt
theorem gone_rng (TG TH : List Txt) : ∀ z ∈ dfGone TG TH, ∃ a : Nat, z = (a : Int) ∧ a < TG.length := fun _ hz => ((outL_mem _ _ _).1 hz).1
theorem new_rng (TG TH : List Txt) : ∀ z ∈ dfNew TG TH, ∃ a : Nat, z = (a : Int) ∧ a < TH.length := (dfK_good TG TH TH.length).neg
/-- a row of numbers in a block of its own -/
abbrev IntB (w : World) (b : Nat) (l : List Int) : Prop := w.heap[b]? = some (.cells (numCells l).toArray 3)
theorem IntB.at {w : World} {b : Nat} {l : List Int} (h : IntB w b l) {j : Nat} (hj : j < l.length) : w.cell? ⟨b, j, none⟩ = some (.int .i64 l[j]) := blk_cell h (by rw [List.getElem?_toArray, numCells_at hj])
theorem IntB.set {w : World} {b : Nat} {l : List Int} (h : IntB w b l) (j : Nat) (x : Int) : IntB (w.setCell ⟨b, j, none⟩ (.int .i64 x)) b (l.set j x) := by
 unfold IntB
 rw [heap_setCell h]
 unfold numCells
 simp [List.map_set]
theorem IntB.other {w : World} {b c : Nat} {l : List Int} (h : IntB w b l) (hne : b ≠ c) (j : Nat) (x : Value) : IntB (w.setCell ⟨c, j, none⟩ x) b l := (Below.heap_setCell _ _ _ _ hne).trans h
theorem made_ints (N : Nat) : madeCells #[.int .i64 0] N = (numCells (List.replicate N 0)).toArray := by
 apply Array.ext
 · simp [size_madeCells, numCells]
 · intro i h1 h2
   simp [madeCells, numCells, Nat.mod_one]
/-- the two counts -/
structure CtO (X w : World) (ga gb : Nat) (A B : List Int) : Prop where
 low : Below X.heap.size X w
 a : IntB w ga A
 b : IntB w gb B
 ne : ga ≠ gb
 la : X.heap.size ≤ ga
 lb : X.heap.size ≤ gb
theorem CtO.keep {X w u : World} {ga gb : Nat} {A B : List Int} (h : CtO X w ga gb A B) (hu : Below w.heap.size w u) : CtO X u ga gb A B := ⟨bl_step h.low hu, hs_keep h.a hu, hs_keep h.b hu, h.ne, h.la, h.lb⟩
theorem CtO.setA {X w : World} {ga gb : Nat} {A B : List Int} (h : CtO X w ga gb A B) (j : Nat) (x : Int) : CtO X (w.setCell ⟨ga, j, none⟩ (.int .i64 x)) ga gb (A.set j x) B := ⟨bl_set h.low _ _ _ h.la, h.a.set j x, h.b.other (fun e => h.ne e.symm) _ _, h.ne, h.la, h.lb⟩
theorem CtO.setB {X w : World} {ga gb : Nat} {A B : List Int} (h : CtO X w ga gb A B) (j : Nat) (x : Int) : CtO X (w.setCell ⟨gb, j, none⟩ (.int .i64 x)) ga gb A (B.set j x) := ⟨bl_set h.low _ _ _ h.lb, h.a.other h.ne _ _, h.b.set j x, h.ne, h.la, h.lb⟩
theorem CtO.made1 (X : World) (n m : Nat) : CtO X ((X.alloc (.cells (madeCells #[.int .i64 0] n) 3)).alloc (.cells (madeCells #[.int .i64 0] m) 3)) X.heap.size (X.heap.size + 1) (cntL n []) (cntL m []) := by
 obtain ⟨h1, h2⟩ := two_blocks X (.cells (madeCells #[.int .i64 0] n) 3) (.cells (madeCells #[.int .i64 0] m) 3)
 rw [cntL_zero, cntL_zero]
 exact ⟨bl_step (al' X _) (al' _ _), by unfold IntB; rw [h1, made_ints], by unfold IntB; rw [h2, made_ints], by omega, Nat.le_refl _, by omega⟩
theorem CtO.made2 (X : World) (n m : Nat) : CtO X ((X.alloc (.cells (madeCells #[.int .i64 0] m) 3)).alloc (.cells (madeCells #[.int .i64 0] n) 3)) (X.heap.size + 1) X.heap.size (cntL n []) (cntL m []) := by
 obtain ⟨h1, h2⟩ := two_blocks X (.cells (madeCells #[.int .i64 0] m) 3) (.cells (madeCells #[.int .i64 0] n) 3)
 rw [cntL_zero, cntL_zero]
 exact ⟨bl_step (al' X _) (al' _ _), by unfold IntB; rw [h2, made_ints], by unfold IntB; rw [h1, made_ints], by omega, by omega, Nat.le_refl _⟩

theorem cntL_get {n : Nat} {l : List Int} {j : Nat} (hj : j < (cntL n l).length) : (cntL n l)[j] = ((l.count (j : Int) : Nat) : Int) := by
 have h := cntL_at (n := n) (l := l) (i := j) (by rw [cntL_len] at hj; exact hj)
 rw [List.getElem?_eq_getElem hj] at h
 exact Option.some.inj h
theorem IntB.cnt {w : World} {b n : Nat} {l : List Int} (h : IntB w b (cntL n l)) {j : Nat} (hj : j < n) : w.cell? ⟨b, j, none⟩ = some (.int .i64 ((l.count (j : Int) : Nat) : Int)) := by
 have h1 : j < (cntL n l).length := by rw [cntL_len]; exact hj
 rw [h.at h1, cntL_get h1]
theorem CtO.incA {X w : World} {ga gb n : Nat} {l B : List Int} (h : CtO X w ga gb (cntL n l) B) {j : Nat} (hj : j < n) : CtO X (w.setCell ⟨ga, j, none⟩ (.int .i64 (((l.count (j : Int) : Nat) : Int) + 1))) ga gb (cntL n (l ++ [(j : Int)])) B := by
 rw [← cntL_snoc hj]
 exact h.setA j _
theorem CtO.incB {X w : World} {ga gb n : Nat} {A l : List Int} (h : CtO X w ga gb A (cntL n l)) {j : Nat} (hj : j < n) : CtO X (w.setCell ⟨gb, j, none⟩ (.int .i64 (((l.count (j : Int) : Nat) : Int) + 1))) ga gb A (cntL n (l ++ [(j : Int)])) := by
 rw [← cntL_snoc hj]
 exact h.setB j _
theorem take_map {α : Type} {l : List α} {k : Nat} (hk : k < l.length) (f : α → Int) : (l.take (k + 1)).map f = (l.take k).map f ++ [f l[k]] := by
 rw [List.take_add_one, List.getElem?_eq_getElem hk, Option.toList_some, List.map_append]
 rfl
theorem take_snoc {l : List Int} {k : Nat} (hk : k < l.length) (p : List Int) : p ++ l.take (k + 1) = (p ++ l.take k) ++ [l[k]] := by
 rw [List.take_add_one, List.getElem?_eq_getElem hk, Option.toList_some, List.append_assoc]

end Go.Proofs.YtloaikjealcbmaaGreat
namespace Go.Proofs.YtloaikjealcbmaaGreat
open Go.RowKit Go.Maps Go.Sort

theorem collapse3V {R F : World → Nat → Nat → Prop} {G : Prop} (h : (∀ V q r, F V q r → R V q r) → G) (pf : ∀ V q r, F V q r → R V q r) : G := h pf
set_option maxRecDepth 20000 in
set_option maxHeartbeats 16000000 in
theorem diffPartsYes (HD : DfOK) (HW : WkOK14) (rv nv lv pv rv' nv' lv' pv' : Value) (g h : Gm) (w : World) (hV : GmV w rv nv lv pv g) (hV' : GmV w rv' nv' lv' pv' h) (hf : Fits12 g) (hf' : Fits12 h) (hg : SndG g) (hh : SndG h) : Calls Tryz.prog 5 #[gmA rv nv lv pv g.start, gmA rv' nv' lv' pv' h.start] w fun e w' => e = .returned (.bool true) ∧ Below w.heap.size w w' := by
 obtain ⟨pa, pc, rfl⟩ := hV.prods.shape
 obtain ⟨pa', pc', rfl⟩ := hV'.prods.shape
 obtain ⟨W, hW, hB1, hBx9⟩ := boxes2 w rv nv lv (.slice pa g.prods.length pc) rv' nv' lv' (.slice pa' h.prods.length pc') g.start h.start
 have hB := hid hB1
 have hBx := hid hBx9
 have hKp := hid (fun u (hu : Below W.heap.size W u) => hV.keep (bl_step hB1 hu))
 have hKq := hid (fun u (hu : Below W.heap.size W u) => hV'.keep (bl_step hB1 hu))
 have GW := hid (HW.wakes W)
 have GL := hid (fun u hu => longNo _ _ _ _ g u (hKp.out u hu) hf)
 have GM := hid (fun u hu => longNo _ _ _ _ h u (hKq.out u hu) hf')
 have GS := hid (fun u hu => refSound g _ _ _ _ u (hKp.out u hu) hf.bd.bnd hf.bd.nam)
 have GT := hid (fun u hu => refSound h _ _ _ _ u (hKq.out u hu) hf'.bd.bnd hf'.bd.nam)
 rw [soundB_yes hg] at GS
 rw [soundB_yes hh] at GT
 have l1 := hf.prods
 have l2 := hf'.prods
 have r1 := hf.rules
 have r2 := hf'.rules
 have n1 := hf.nonts
 have n2 := hf'.nonts
 have GO : Hid (∀ u, Below W.heap.size W u → Calls Tryz.prog 12 #[gmA rv nv lv (.slice pa g.prods.length pc) g.start, gmA rv' nv' lv' (.slice pa' h.prods.length pc') h.start] u fun e w' => ∃ ka kc ga gc na nc er, e = .returned (.tuple #[.agg #[.slice ka (chgS g h).prs.length kc, .slice ga (chgS g h).gone.length gc, .slice na (chgS g h).new.length nc, .bool (chgS g h).rules, .bool (chgS g h).levels, .bool (chgS g h).start], .int .i64 er]) ∧ ChgV w' (.slice ka (chgS g h).prs.length kc) (.slice ga (chgS g h).gone.length gc) (.slice na (chgS g h).new.length nc) (chgS g h) ∧ Below u.heap.size u w') := hid (fun u hu => (HD.of g h _ _ _ _ _ _ _ _ u hf.bd hf'.bd (hKp.out u hu) (hKq.out u hu)).mono (fun e w' => by
  rintro ⟨kv, gv, nv2, rfl, hv, hb⟩
  rw [chgG_yes hg hh] at hv ⊢
  obtain ⟨ka, kc, ga, gc, na, nc, rfl, rfl, rfl⟩ := hv.shape
  exact ⟨ka, kc, ga, gc, na, nc, _, rfl, hv, hb⟩))
 have GX : Hid (∀ k (hk : k < g.prods.length) u, Below W.heap.size W u → Calls Tryz.prog 16 #[gmA rv nv lv (.slice pa g.prods.length pc) g.start, .int .i64 (k : Int)] u fun e w' => e = .returned (.string (strT ((txtsG g).getD k []))) ∧ Below u.heap.size u w') := hid (fun k hk u hu => by
  rw [txtsG_at hk]
  exact refTextC _ _ _ _ g k u (hKp.out u hu) hk (by omega) (by omega) (by omega) hf.nm (hf.prod k hk))
 have GY : Hid (∀ k (hk : k < h.prods.length) u, Below W.heap.size W u → Calls Tryz.prog 16 #[gmA rv' nv' lv' (.slice pa' h.prods.length pc') h.start, .int .i64 (k : Int)] u fun e w' => e = .returned (.string (strT ((txtsG h).getD k []))) ∧ Below u.heap.size u w') := hid (fun k hk u hu => by
  rw [txtsG_at hk]
  exact refTextC _ _ _ _ h k u (hKq.out u hu) hk (by omega) (by omega) (by omega) hf'.nm (hf'.prod k hk))
 have hprs : Hid (∀ p ∈ (chgS g h).prs, ∃ a b : Nat, p = ((a : Int), (b : Int)) ∧ a < g.prods.length ∧ b < h.prods.length ∧ (txtsG g).getD a [] = (txtsG h).getD b []) := hid (by have := prs_txt (txtsG g) (txtsG h); rw [txtsG_len, txtsG_len] at this; exact this)
 have hgone : Hid (∀ z ∈ (chgS g h).gone, ∃ a : Nat, z = (a : Int) ∧ a < g.prods.length) := hid (by have := gone_rng (txtsG g) (txtsG h); rw [txtsG_len] at this; exact this)
 have hnew : Hid (∀ z ∈ (chgS g h).new, ∃ a : Nat, z = (a : Int) ∧ a < h.prods.length) := hid (by have := new_rng (txtsG g) (txtsG h); rw [txtsG_len] at this; exact this)
 have hoA : Hid (∀ i, i < g.prods.length → ((chgS g h).prs.map Prod.fst ++ (chgS g h).gone).count (i : Int) = 1) := hid (by have := once_left (txtsG g) (txtsG h); rw [txtsG_len] at this; exact this)
 have hoB : Hid (∀ i, i < h.prods.length → ((chgS g h).prs.map Prod.snd ++ (chgS g h).new).count (i : Int) = 1) := hid (by have := once_right (txtsG g) (txtsG h); rw [txtsG_len] at this; exact this)
 have hlen : (chgS g h).prs.length ≤ 60 ∧ (chgS g h).gone.length ≤ 60 ∧ (chgS g h).new.length ≤ 60 := by
  obtain ⟨a1, a2⟩ := dfK_lens (txtsG g) (txtsG h)
  rw [txtsG_len] at a1 a2
  refine ⟨?_, ?_, ?_⟩
  · show (dfPrs _ _).length ≤ 60; omega
  · show (dfGone _ _).length ≤ 60; omega
  · show (dfNew _ _).length ≤ 60; omega
 obtain ⟨⟨z0, z1, z2, z3, z4⟩, ⟨q0, q1, q2, q3, q4⟩⟩ := hBx.out W (Below.refl _ _)
 clear hV hV' hB1 hBx9 hKp hKq hf hf' hg hh HD HW r1 r2 n1 n2
 generalize g.start = st at *
 generalize h.start = st' at *
 generalize chgS g h = c at *
 generalize txtsG g = TG at *
 generalize txtsG h = TH at *
 obtain ⟨⟨lp, lg⟩, ln⟩ : ((c.prs.length ≤ 60) ∧ (c.gone.length ≤ 60)) ∧ (c.new.length ≤ 60) := ⟨⟨hlen.1, hlen.2.1⟩, hlen.2.2⟩
 clear hlen
 generalize g.prods.length = pn at *
 generalize h.prods.length = pm at *
 have hma := run_make_row' (P := Tryz.prog) 32 3 (.int .i64 0) 8 Tryz.underlying32 Tryz.info3 rfl .i64 .i64 pn (by omega) (by omega)
 have hmb := run_make_row' (P := Tryz.prog) 32 3 (.int .i64 0) 8 Tryz.underlying32 Tryz.info3 rfl .i64 .i64 pm (by omega) (by omega)
 obtain ⟨kn, hkn⟩ : ∃ n, Hid (c.prs.length = n) := ⟨_, hid rfl⟩
 obtain ⟨gn, hgn⟩ : ∃ n, Hid (c.gone.length = n) := ⟨_, hid rfl⟩
 obtain ⟨nn, hnn⟩ : ∃ n, Hid (c.new.length = n) := ⟨_, hid rfl⟩
 rw [hkn.out] at lp GO
 rw [hgn.out] at lg GO
 rw [hnn.out] at ln GO
 go_enter Tryz.func5, Tryz.ntmps5
 go_wp2_with (first
  | (go_at_call 8; refine GW.out.mono ?_; clear GW; rintro e w1 ⟨rfl, hc1⟩; have h1 := hid hc1; clear hc1 z0 z1 z2 z3 z4 q0 q1 q2 q3 q4 hW; obtain ⟨⟨z0, z1, z2, z3, z4⟩, ⟨q0, q1, q2, q3, q4⟩⟩ := hBx.out w1 h1.out)
  | (go_at_call 9; refine (GL.out w1 h1.out).mono ?_; clear GL; rintro e w2 ⟨rfl, hc2⟩; have h2 := hid (bl_step h1.out hc2); clear hc2 z0 z1 z2 z3 z4 q0 q1 q2 q3 q4; obtain ⟨⟨z0, z1, z2, z3, z4⟩, ⟨q0, q1, q2, q3, q4⟩⟩ := hBx.out w2 h2.out)
  | (go_at_call 9; refine (GM.out w2 h2.out).mono ?_; clear GM; rintro e w3 ⟨rfl, hc3⟩; have h3 := hid (bl_step h2.out hc3); clear hc3 z0 z1 z2 z3 z4 q0 q1 q2 q3 q4; obtain ⟨⟨z0, z1, z2, z3, z4⟩, ⟨q0, q1, q2, q3, q4⟩⟩ := hBx.out w3 h3.out)
  | (go_at_call 15; refine (GS.out w3 h3.out).mono ?_; clear GS; rintro e w4 ⟨rfl, hc4⟩; have h4 := hid (bl_step h3.out hc4); clear hc4 z0 z1 z2 z3 z4 q0 q1 q2 q3 q4; obtain ⟨⟨z0, z1, z2, z3, z4⟩, ⟨q0, q1, q2, q3, q4⟩⟩ := hBx.out w4 h4.out)
  | (go_at_call 15; refine (GT.out w4 h4.out).mono ?_; clear GT; rintro e w5 ⟨rfl, hc5⟩; have h5 := hid (bl_step h4.out hc5); clear hc5 z0 z1 z2 z3 z4 q0 q1 q2 q3 q4; obtain ⟨⟨z0, z1, z2, z3, z4⟩, ⟨q0, q1, q2, q3, q4⟩⟩ := hBx.out w5 h5.out)
  | (go_at_call 12; refine (GO.out w5 h5.out).mono ?_; clear GO; rintro e w6 ⟨ka, kc, ga, gc, na, nc, er, rfl, hv6, hc6⟩; have hal := al' w6 (.cells #[.slice ka kn kc, .slice ga gn gc, .slice na nn nc, .bool c.rules, .bool c.levels, .bool c.start] 34); have h6 := hid (bl_step (bl_step h5.out hc6) hal); have hv := hid (hv6.keep hal); have hk6 := hid (heap_new w6 (.cells #[.slice ka kn kc, .slice ga gn gc, .slice na nn nc, .bool c.rules, .bool c.levels, .bool c.start] 34)); clear hc6 hal hv6 z0 z1 z2 z3 z4 q0 q1 q2 q3 q4))
 obtain ⟨X, hX⟩ : ∃ x, w6.alloc (.cells #[.slice ka kn kc, .slice ga gn gc, .slice na nn nc, .bool c.rules, .bool c.levels, .bool c.start] 34) = x := ⟨_, rfl⟩
 rw [hX] at h6 hv hk6 ⊢
 clear hX h1 h2 h3 h4 h5
 obtain ⟨⟨z0, z1, z2, z3, z4⟩, ⟨q0, q1, q2, q3, q4⟩⟩ := hBx.out X h6.out
 clear z0 z1 z2 z4 q0 q1 q2 q4
 have za := keep_cell (al' X (.cells (madeCells #[.int .i64 0] pn) 3)) z3
 have zb := keep_cell (al' X (.cells (madeCells #[.int .i64 0] pm) 3)) z3
 have qa := keep_cell (al' X (.cells (madeCells #[.int .i64 0] pn) 3)) q3
 have qb := keep_cell (al' X (.cells (madeCells #[.int .i64 0] pm) 3)) q3
 have m1 := CtO.made1 X pn pm
 have m2 := CtO.made2 X pn pm
 have m1 := hid m1
 have m2 := hid m2
 apply collapse3V (F := fun V q r => CtO X V q r (cntL pn []) (cntL pm []))
 case h =>
  intro rest
  go_region
  all_goals first
   | (have hf := m1.out; generalize (X.alloc (.cells (madeCells #[.int .i64 0] pn) 3)).alloc (.cells (madeCells #[.int .i64 0] pm) 3) = V at hf ⊢; generalize X.heap.size + 1 = r at hf ⊢; generalize X.heap.size = q at hf ⊢; exact rest V q r hf)
   | (have hf := m2.out; generalize (X.alloc (.cells (madeCells #[.int .i64 0] pm) 3)).alloc (.cells (madeCells #[.int .i64 0] pn) 3) = V at hf ⊢; generalize X.heap.size + 1 = q at hf ⊢; generalize X.heap.size = r at hf ⊢; exact rest V q r hf)
 case pf =>
  rintro V q r hf
  have hU9 := hf.keep ((Below.refl _ V).drew)
  obtain ⟨U, hUe⟩ : ∃ x, V.drew = x := ⟨_, rfl⟩
  rw [hUe] at hU9 ⊢
  have hU := hid hU9
  clear hf hUe hU9 m1 m2 za zb qa qb z3 q3 hma hmb
  have hbox : Hid (∀ u, Below X.heap.size X u → u.cell? ⟨w6.heap.size, 0, none⟩ = some (.slice ka kn kc) ∧ u.cell? ⟨w6.heap.size, 1, none⟩ = some (.slice ga gn gc) ∧ u.cell? ⟨w6.heap.size, 2, none⟩ = some (.slice na nn nc)) := hid (fun u hu => by
   have h9 := hs_keep hk6.out hu
   exact ⟨blk_cell h9 rfl, blk_cell h9 rfl, blk_cell h9 rfl⟩)
  obtain ⟨b0, b1, b2⟩ := hbox.out U hU.out.low
  go_wp2
  clear b0 b1 b2
  go_loopw [54] (fun i wr => ∃ k : Nat, k ≤ kn ∧ i = .int .i64 (k : Int) ∧ Hid (CtO X wr q r (cntL pn ((c.prs.take k).map Prod.fst)) (cntL pm ((c.prs.take k).map Prod.snd)))) (fun i _ => kn - (intOf i).toNat)
  case atStart => exact ⟨0, Nat.zero_le _, rfl, hU⟩
  case round =>
   obtain ⟨k, hk, rfl, hC⟩ := hrel
   by_cases hlt : k < kn
   · have hltz : (k : Int) < (kn : Int) := by omega
     have hkl : k < c.prs.length := by rw [hkn.out]; exact hlt
     obtain ⟨a, b, hp, ha, hb, ht⟩ := hprs.out _ (List.getElem_mem hkl)
     obtain ⟨kb, ko, rfl, -, x0, x1⟩ := (hv.out.keep hC.out.low).prs.at hkl
     have e1 := take_map hkl Prod.fst
     have e2 := take_map hkl Prod.snd
     rw [hp] at x0 x1 e1 e2
     have hmA : Hid (((c.prs.take k).map Prod.fst).count (a : Int) ≤ 100) := hid (Nat.le_trans (count_le_len _ _) (by rw [List.length_map, List.length_take]; omega))
     have hmB : Hid (((c.prs.take k).map Prod.snd).count (b : Int) ≤ 100) := hid (Nat.le_trans (count_le_len _ _) (by rw [List.length_map, List.length_take]; omega))
     have hnext : Hid (∀ u, CtO X u q r (cntL pn ((c.prs.take k).map Prod.fst)) (cntL pm ((c.prs.take k).map Prod.snd)) → ∃ ca cb : Nat, ca ≤ 100 ∧ cb ≤ 100 ∧ (u.cell? ⟨q, a, none⟩ = some (.int .i64 (ca : Int)) ∧ u.frozen? ⟨q, a, none⟩ = false) ∧ ∀ u1, u.setCell ⟨q, a, none⟩ (.int .i64 ((ca : Int) + 1)) = u1 → (u1.cell? ⟨r, b, none⟩ = some (.int .i64 (cb : Int)) ∧ u1.frozen? ⟨r, b, none⟩ = false) ∧ Kept (oneBlk q) u u1 ∧ CtO X (u1.setCell ⟨r, b, none⟩ (.int .i64 ((cb : Int) + 1))) q r (cntL pn ((c.prs.take (k + 1)).map Prod.fst)) (cntL pm ((c.prs.take (k + 1)).map Prod.snd))) := hid (fun u hu => by
      refine ⟨_, _, hmA.out, hmB.out, ⟨hu.a.cnt ha, blk_frozen hu.a _⟩, fun u1 hu1 => ?_⟩
      have h1 := hu.incA ha
      rw [hu1] at h1
      refine ⟨⟨h1.b.cnt hb, blk_frozen h1.b _⟩, by rw [← hu1]; exact (Kept.refl _ u).setCell (a := ⟨q, a, none⟩) fun _ => rfl, ?_⟩
      have h2 := h1.incB hb
      rw [e1, e2]
      exact h2)
     have hqlt : q < wr.heap.size := blk_lt hC.out.a
     have hal := al' wr (.cells #[.int .i64 (a : Int), .int .i64 (b : Int)] 41)
     have kp := heap_new wr (.cells #[.int .i64 (a : Int), .int .i64 (b : Int)] 41)
     obtain ⟨wa, hwa⟩ : ∃ x, wr.alloc (.cells #[.int .i64 (a : Int), .int .i64 (b : Int)] 41) = x := ⟨_, rfl⟩
     rw [hwa] at hal kp
     have hCa := hid (hC.out.keep hal)
     have hWa := hid (bl_step h6.out hCa.out.low)
     obtain ⟨⟨z0, z1, z2, z3, z4⟩, ⟨q0, q1, q2, q3, q4⟩⟩ := hBx.out wa hWa.out
     have p0 : wa.cell? ⟨wr.heap.size, 0, none⟩ = some (.int .i64 (a : Int)) := blk_cell kp rfl
     have p1 : wa.cell? ⟨wr.heap.size, 1, none⟩ = some (.int .i64 (b : Int)) := blk_cell kp rfl
     have cA : Hid (∀ d os, Calls Tryz.prog 16 #[gmA rv nv lv (.slice pa pn pc) st, .int .i64 (a : Int)] (grow (redrawn wa d) os) fun e w'' => e = .returned (.string (strT (TG.getD a []))) ∧ ∃ p : Regrown, w'' = grow (redrawn wa p.d) p.os) := hid (fun d os => Calls.regrown_of (GX.out a ha _ (bl_step hWa.out (below_regrown wa d os))))
     have cB : Hid (∀ d os, Calls Tryz.prog 16 #[gmA rv' nv' lv' (.slice pa' pm pc') st', .int .i64 (b : Int)] (grow (redrawn wa d) os) fun e w'' => e = .returned (.string (strT (TG.getD a []))) ∧ ∃ p : Regrown, w'' = grow (redrawn wa p.d) p.os) := hid (fun d os => Calls.regrown_of (by rw [ht]; exact GY.out b hb _ (bl_step hWa.out (below_regrown wa d os))))
     have y0 := cell_regrown z0
     have y1 := cell_regrown z1
     have y2 := cell_regrown z2
     have y3 := cell_regrown z3
     have y4 := cell_regrown z4
     have v0 := cell_regrown q0
     have v1 := cell_regrown q1
     have v2 := cell_regrown q2
     have v3 := cell_regrown q3
     have v4 := cell_regrown q4
     have s0 := cell_regrown p0
     have s1 := cell_regrown p1
     have haz : ¬ (a : Int) < 0 := by omega
     have hbz : ¬ (b : Int) < 0 := by omega
     have haz2 : ¬ (pn : Int) ≤ (a : Int) := by omega
     have hbz2 : ¬ (pm : Int) ≤ (b : Int) := by omega
     have ha9 := hid ha
     have hb9 := hid hb
     clear hC hmA hmB e1 e2 hp ht z0 z1 z2 z3 z4 q0 q1 q2 q3 q4 hal p0 p1
     generalize strT (TG.getD a []) = S9 at *
     go_wp2_with fail
     clear x0 x1 hwa
     refine wp_region_quiet_below (by kernel_rfl) (by kernel_rfl) ?_
     repeat (first | go_big_quiet_step (first | with_reducible exact cA.out _ _ | with_reducible exact cB.out _ _) | quiet_step (first | with_reducible exact cA.out _ _ | with_reducible exact cB.out _ _))
     refine wpQuiet_nil ?_
     intro _ hw'
     obtain ⟨⟨dq, osq⟩, hw''⟩ := hw'
     subst hw''
     have hblq := below_regrown wa dq osq
     generalize grow (redrawn wa dq) osq = wz at *
     have kz := hs_keep kp hblq
     have f0 : wz.cell? ⟨wr.heap.size, 0, none⟩ = some (.int .i64 (a : Int)) := blk_cell kz rfl
     have hCz := hCa.out.keep hblq
     have hne : wr.heap.size ≠ q := by omega
     obtain ⟨ca, cb, la, lb, ⟨g0, g1⟩, hn9⟩ := hnext.out wz hCz
     obtain ⟨w8, hw8⟩ : ∃ x, wz.setCell ⟨q, a, none⟩ (.int .i64 ((ca : Int) + 1)) = x := ⟨_, rfl⟩
     obtain ⟨⟨g2, g3⟩, hk8, hC9⟩ := hn9 w8 hw8
     have f1 : w8.cell? ⟨wr.heap.size, 1, none⟩ = some (.int .i64 (b : Int)) := blk_cell (hk8.blk kz hne) rfl
     have hC9 := hid hC9
     clear y0 y1 y2 y3 y4 v0 v1 v2 v3 v4 s0 s1 cA cB hnext hCz kz kp hblq hk8 hCa hn9
     go_wp2
     go_roundw
     case rel => exact ⟨k + 1, by omega, by go_num, hC9⟩
     case measure => simp [intOf]; omega
   · have hltz : ¬ (k : Int) < (kn : Int) := by omega
     have hkk : c.prs.take k = c.prs := List.take_of_length_le (by rw [hkn.out]; omega)
     rw [hkk] at hC
     obtain ⟨b0, b1, b2⟩ := hbox.out wr hC.out.low
     have hC1 : Hid (CtO X wr q r (cntL pn (c.prs.map Prod.fst ++ c.gone.take 0)) (cntL pm (c.prs.map Prod.snd))) := hid (by rw [List.take_zero, List.append_nil]; exact hC.out)
     clear hkk hC hk hlt
     go_wp2
     clear hltz b0 b1 b2
     obtain ⟨wo, hwo⟩ : ∃ x, x = wr := ⟨_, rfl⟩
     subst hwo
     go_loopw [109] (fun i wr => ∃ k : Nat, k ≤ gn ∧ i = .int .i64 (k : Int) ∧ Hid (CtO X wr q r (cntL pn (c.prs.map Prod.fst ++ c.gone.take k)) (cntL pm (c.prs.map Prod.snd)))) (fun i _ => gn - (intOf i).toNat)
     case atStart => exact ⟨0, Nat.zero_le _, rfl, hC1⟩
     case round =>
      clear hC1
      obtain ⟨k, hk, rfl, hC⟩ := hrel
      by_cases hlt : k < gn
      · have hltz : (k : Int) < (gn : Int) := by omega
        have hkl : k < c.gone.length := by rw [hgn.out]; exact hlt
        obtain ⟨a, hp, ha⟩ := hgone.out _ (List.getElem_mem hkl)
        obtain ⟨kb, ko, cap, e9, -, -, hcs⟩ := (hv.out.keep hC.out.low).gone.at (by omega)
        injection e9 with e9 _ _
        subst e9
        have x0 := hcs k hkl
        have e1 := take_snoc hkl (c.prs.map Prod.fst)
        rw [hp] at x0 e1
        have hm := Nat.le_trans (count_le_len (c.prs.map Prod.fst ++ c.gone.take k) a) (show _ ≤ 200 by rw [List.length_append, List.length_map, List.length_take, hkn.out]; omega)
        have g0 := hC.out.a.cnt ha
        have g1 := blk_frozen hC.out.a a
        have hC9 := hC.out.incA ha
        rw [← e1] at hC9
        have hC9 := hid hC9
        have ha9 := hid ha
        clear hcs e1 hp hC
        generalize (c.prs.map Prod.fst ++ c.gone.take k).count (a : Int) = ca at *
        go_wp2
        go_roundw
        case rel => exact ⟨k + 1, by omega, by go_num, hC9⟩
        case measure => simp [intOf]; omega
      · have hltz : ¬ (k : Int) < (gn : Int) := by omega
        have hkk : c.gone.take k = c.gone := List.take_of_length_le (by rw [hgn.out]; omega)
        rw [hkk] at hC
        obtain ⟨b0, b1, b2⟩ := hbox.out wr hC.out.low
        have hC1 : Hid (CtO X wr q r (cntL pn (c.prs.map Prod.fst ++ c.gone)) (cntL pm (c.prs.map Prod.snd ++ c.new.take 0))) := hid (by rw [List.take_zero, List.append_nil]; exact hC.out)
        clear hkk hC hk hlt
        go_wp2
        clear hltz b0 b1 b2
        obtain ⟨wo2, hwo⟩ : ∃ x, x = wr := ⟨_, rfl⟩
        subst hwo
        go_loopw [123] (fun i wr => ∃ k : Nat, k ≤ nn ∧ i = .int .i64 (k : Int) ∧ Hid (CtO X wr q r (cntL pn (c.prs.map Prod.fst ++ c.gone)) (cntL pm (c.prs.map Prod.snd ++ c.new.take k)))) (fun i _ => nn - (intOf i).toNat)
        case atStart => exact ⟨0, Nat.zero_le _, rfl, hC1⟩
        case round =>
         clear hC1
         obtain ⟨k, hk, rfl, hC⟩ := hrel
         by_cases hlt : k < nn
         · have hltz : (k : Int) < (nn : Int) := by omega
           have hkl : k < c.new.length := by rw [hnn.out]; exact hlt
           obtain ⟨a, hp, ha⟩ := hnew.out _ (List.getElem_mem hkl)
           obtain ⟨kb, ko, cap, e9, -, -, hcs⟩ := (hv.out.keep hC.out.low).new.at (by omega)
           injection e9 with e9 _ _
           subst e9
           have x0 := hcs k hkl
           have e1 := take_snoc hkl (c.prs.map Prod.snd)
           rw [hp] at x0 e1
           have hm := Nat.le_trans (count_le_len (c.prs.map Prod.snd ++ c.new.take k) a) (show _ ≤ 200 by rw [List.length_append, List.length_map, List.length_take, hkn.out]; omega)
           have g0 := hC.out.b.cnt ha
           have g1 := blk_frozen hC.out.b a
           have hC9 := hC.out.incB ha
           rw [← e1] at hC9
           have hC9 := hid hC9
           have ha9 := hid ha
           clear hcs e1 hp hC
           generalize (c.prs.map Prod.snd ++ c.new.take k).count (a : Int) = ca at *
           go_wp2
           go_roundw
           case rel => exact ⟨k + 1, by omega, by go_num, hC9⟩
           case measure => simp [intOf]; omega
         · have hltz : ¬ (k : Int) < (nn : Int) := by omega
           have hkk : c.new.take k = c.new := List.take_of_length_le (by rw [hnn.out]; omega)
           rw [hkk] at hC
           have hoA1 : Hid (∀ i, i < pn → wr.cell? ⟨q, i, none⟩ = some (.int .i64 1)) := hid (fun i hi => by have := hC.out.a.cnt hi; rw [hoA.out i hi] at this; exact this)
           have hoB1 : Hid (∀ i, i < pm → wr.cell? ⟨r, i, none⟩ = some (.int .i64 1)) := hid (fun i hi => by have := hC.out.b.cnt hi; rw [hoB.out i hi] at this; exact this)
           have hlow := hid (bl_step hB.out (bl_step h6.out hC.out.low))
           have ix0 : ∀ u, (Instr.index 43 (.agg #[.slice (some ⟨q, 0, none⟩) pn pn, .slice (some ⟨r, 0, none⟩) pm pm]) (.int .i64 0)).run Tryz.prog u = .ok (.slice (some ⟨q, 0, none⟩) pn pn) u := fun u => by simp [Instr.index, run_underlying Tryz.underlying43, asIntOf, go_sem, part, isAgg, run_underlying Tryz.underlying32]
           have ix1 : ∀ u, (Instr.index 43 (.agg #[.slice (some ⟨q, 0, none⟩) pn pn, .slice (some ⟨r, 0, none⟩) pm pm]) (.int .i64 1)).run Tryz.prog u = .ok (.slice (some ⟨r, 0, none⟩) pm pm) u := fun u => by simp [Instr.index, run_underlying Tryz.underlying43, asIntOf, go_sem, part, isAgg, run_underlying Tryz.underlying32]
           clear hkk hC hk hlt hoA hoB
           go_wp2
           clear hltz
           obtain ⟨we, hwe⟩ : ∃ x, x = wr := ⟨_, rfl⟩
           subst hwe
           go_loopw [137] (fun i wr => ∃ t : Nat, t ≤ 2 ∧ i = .int .i64 (t : Int) ∧ wr = we) (fun i _ => 2 - (intOf i).toNat)
           case atStart => exact ⟨0, by omega, rfl, rfl⟩
           case round =>
            obtain ⟨t, ht2, rfl, rfl⟩ := hrel
            obtain rfl | rfl | rfl : t = 0 ∨ t = 1 ∨ t = 2 := by omega
            · go_wp2
              go_loopw [142] (fun i wr' => ∃ j : Nat, j ≤ pn ∧ i = .int .i64 (j : Int) ∧ wr' = wr) (fun i _ => pn - (intOf i).toNat)
              case atStart => exact ⟨0, Nat.zero_le _, rfl, rfl⟩
              case round =>
               obtain ⟨j, hj, rfl, hw9⟩ := hrel
               subst hw9
               by_cases hlt : j < pn
               · have hltz : (j : Int) < (pn : Int) := by omega
                 have g0 := hoA1.out j hlt
                 go_wp2
                 go_roundw
                 case rel => exact ⟨j + 1, by omega, by go_num, by first | rfl | trivial⟩
                 case measure => simp [intOf]; omega
               · have hltz : ¬ (j : Int) < (pn : Int) := by omega
                 go_wp2
                 go_roundw
                 case rel => exact ⟨1, by omega, by go_num, by first | rfl | trivial⟩
                 case measure => simp [intOf]
            · go_wp2
              go_loopw [142] (fun i wr' => ∃ j : Nat, j ≤ pm ∧ i = .int .i64 (j : Int) ∧ wr' = wr) (fun i _ => pm - (intOf i).toNat)
              case atStart => exact ⟨0, Nat.zero_le _, rfl, rfl⟩
              case round =>
               obtain ⟨j, hj, rfl, hw9⟩ := hrel
               subst hw9
               by_cases hlt : j < pm
               · have hltz : (j : Int) < (pm : Int) := by omega
                 have g0 := hoB1.out j hlt
                 go_wp2
                 go_roundw
                 case rel => exact ⟨j + 1, by omega, by go_num, by first | rfl | trivial⟩
                 case measure => simp [intOf]; omega
               · have hltz : ¬ (j : Int) < (pm : Int) := by omega
                 go_wp2
                 go_roundw
                 case rel => exact ⟨2, by omega, by go_num, by first | rfl | trivial⟩
                 case measure => simp [intOf]
            · go_wp2
              go_ret
              exact ⟨rfl, hlow.out⟩

end Go.Proofs.YtloaikjealcbmaaGreat
namespace Go.Proofs.YtloaikjealcbmaaGreat
open Go.RowKit Go.Maps Go.Sort

set_option maxRecDepth 20000 in
set_option maxHeartbeats 16000000 in
theorem diffPartsWalk (HD : DfOK) (HW : WkOK14) (rv nv lv pv rv' nv' lv' pv' : Value) (g h : Gm) (w : World) (hV : GmV w rv nv lv pv g) (hV' : GmV w rv' nv' lv' pv' h) : Calls Tryz.prog 5 #[gmA rv nv lv pv g.start, gmA rv' nv' lv' pv' h.start] w fun e w' => e = .returned (.bool true) ∧ Below w.heap.size w w' := by
 by_cases hall : (Fits12 g ∧ Fits12 h) ∧ SndG g ∧ SndG h
 · exact diffPartsYes HD HW rv nv lv pv rv' nv' lv' pv' g h w hV hV' hall.1.1 hall.1.2 hall.2.1 hall.2.2
 obtain ⟨W, hW, hB1, hBx9⟩ := boxes2 w rv nv lv pv rv' nv' lv' pv' g.start h.start
 have hB := hid hB1
 have hBx := hid hBx9
 have hKp := hid (fun u (hu : Below W.heap.size W u) => hV.keep (bl_step hB1 hu))
 have hKq := hid (fun u (hu : Below W.heap.size W u) => hV'.keep (bl_step hB1 hu))
 have GW := hid (HW.wakes W)
 obtain ⟨⟨z0, z1, z2, z3, z4⟩, ⟨q0, q1, q2, q3, q4⟩⟩ := hBx.out W (Below.refl _ _)
 by_cases hf : Fits12 g
 · have GL := hid (fun u hu => longNo _ _ _ _ g u (hKp.out u hu) hf)
   by_cases hf' : Fits12 h
   · have GM := hid (fun u hu => longNo _ _ _ _ h u (hKq.out u hu) hf')
     have GS := hid (fun u hu => refSound g _ _ _ _ u (hKp.out u hu) hf.bd.bnd hf.bd.nam)
     by_cases hg : SndG g
     · have hh : ¬ SndG h := fun k => hall ⟨⟨hf, hf'⟩, hg, k⟩
       have GT := hid (fun u hu => refSound h _ _ _ _ u (hKq.out u hu) hf'.bd.bnd hf'.bd.nam)
       rw [soundB_yes hg] at GS
       rw [soundB_no hh] at GT
       clear hV hV' hB1 hBx9 hKp hKq hf hf' hg hh HD HW hall
       generalize g.start = st at *
       generalize h.start = st' at *
       go_enter Tryz.func5, Tryz.ntmps5
       go_wp2_with (first
        | (go_at_call 8; refine GW.out.mono ?_; clear GW; rintro e w1 ⟨rfl, hc1⟩; have h1 := hid hc1; clear hc1 z0 z1 z2 z3 z4 q0 q1 q2 q3 q4 hW; obtain ⟨⟨z0, z1, z2, z3, z4⟩, ⟨q0, q1, q2, q3, q4⟩⟩ := hBx.out w1 h1.out)
        | (go_at_call 9; refine (GL.out w1 h1.out).mono ?_; clear GL; rintro e w2 ⟨rfl, hc2⟩; have h2 := hid (bl_step h1.out hc2); clear hc2 z0 z1 z2 z3 z4 q0 q1 q2 q3 q4; obtain ⟨⟨z0, z1, z2, z3, z4⟩, ⟨q0, q1, q2, q3, q4⟩⟩ := hBx.out w2 h2.out)
        | (go_at_call 9; refine (GM.out w2 h2.out).mono ?_; clear GM; rintro e w3 ⟨rfl, hc3⟩; have h3 := hid (bl_step h2.out hc3); clear hc3 z0 z1 z2 z3 z4 q0 q1 q2 q3 q4; obtain ⟨⟨z0, z1, z2, z3, z4⟩, ⟨q0, q1, q2, q3, q4⟩⟩ := hBx.out w3 h3.out)
        | (go_at_call 15; refine (GS.out w3 h3.out).mono ?_; clear GS; rintro e w4 ⟨rfl, hc4⟩; have h4 := hid (bl_step h3.out hc4); clear hc4 z0 z1 z2 z3 z4 q0 q1 q2 q3 q4; obtain ⟨⟨z0, z1, z2, z3, z4⟩, ⟨q0, q1, q2, q3, q4⟩⟩ := hBx.out w4 h4.out)
        | (go_at_call 15; refine (GT.out w4 h4.out).mono ?_; clear GT; rintro e w5 ⟨rfl, hc5⟩; have h5 := hid (bl_step h4.out hc5); clear hc5 z0 z1 z2 z3 z4 q0 q1 q2 q3 q4; obtain ⟨⟨z0, z1, z2, z3, z4⟩, ⟨q0, q1, q2, q3, q4⟩⟩ := hBx.out w5 h5.out))
       go_ret
       exact ⟨by simp, bl_step hB.out h5.out⟩
     · rw [soundB_no hg] at GS
       clear hV hV' hB1 hBx9 hKp hKq hf hf' hg HD HW hall
       generalize g.start = st at *
       generalize h.start = st' at *
       go_enter Tryz.func5, Tryz.ntmps5
       go_wp2_with (first
        | (go_at_call 8; refine GW.out.mono ?_; clear GW; rintro e w1 ⟨rfl, hc1⟩; have h1 := hid hc1; clear hc1 z0 z1 z2 z3 z4 q0 q1 q2 q3 q4 hW; obtain ⟨⟨z0, z1, z2, z3, z4⟩, ⟨q0, q1, q2, q3, q4⟩⟩ := hBx.out w1 h1.out)
        | (go_at_call 9; refine (GL.out w1 h1.out).mono ?_; clear GL; rintro e w2 ⟨rfl, hc2⟩; have h2 := hid (bl_step h1.out hc2); clear hc2 z0 z1 z2 z3 z4 q0 q1 q2 q3 q4; obtain ⟨⟨z0, z1, z2, z3, z4⟩, ⟨q0, q1, q2, q3, q4⟩⟩ := hBx.out w2 h2.out)
        | (go_at_call 9; refine (GM.out w2 h2.out).mono ?_; clear GM; rintro e w3 ⟨rfl, hc3⟩; have h3 := hid (bl_step h2.out hc3); clear hc3 z0 z1 z2 z3 z4 q0 q1 q2 q3 q4; obtain ⟨⟨z0, z1, z2, z3, z4⟩, ⟨q0, q1, q2, q3, q4⟩⟩ := hBx.out w3 h3.out)
        | (go_at_call 15; refine (GS.out w3 h3.out).mono ?_; clear GS; rintro e w4 ⟨rfl, hc4⟩; have h4 := hid (bl_step h3.out hc4); clear hc4 z0 z1 z2 z3 z4 q0 q1 q2 q3 q4; obtain ⟨⟨z0, z1, z2, z3, z4⟩, ⟨q0, q1, q2, q3, q4⟩⟩ := hBx.out w4 h4.out))
       go_ret
       exact ⟨by simp, bl_step hB.out h4.out⟩
   · have GM := hid (fun u hu => longYes _ _ _ _ h u (hKq.out u hu) hf')
     clear hV hV' hB1 hBx9 hKp hKq hf hf' HD HW hall
     generalize g.start = st at *
     generalize h.start = st' at *
     go_enter Tryz.func5, Tryz.ntmps5
     go_wp2_with (first
      | (go_at_call 8; refine GW.out.mono ?_; clear GW; rintro e w1 ⟨rfl, hc1⟩; have h1 := hid hc1; clear hc1 z0 z1 z2 z3 z4 q0 q1 q2 q3 q4 hW; obtain ⟨⟨z0, z1, z2, z3, z4⟩, ⟨q0, q1, q2, q3, q4⟩⟩ := hBx.out w1 h1.out)
      | (go_at_call 9; refine (GL.out w1 h1.out).mono ?_; clear GL; rintro e w2 ⟨rfl, hc2⟩; have h2 := hid (bl_step h1.out hc2); clear hc2 z0 z1 z2 z3 z4 q0 q1 q2 q3 q4; obtain ⟨⟨z0, z1, z2, z3, z4⟩, ⟨q0, q1, q2, q3, q4⟩⟩ := hBx.out w2 h2.out)
      | (go_at_call 9; refine (GM.out w2 h2.out).mono ?_; clear GM; rintro e w3 ⟨rfl, hc3⟩; have h3 := hid (bl_step h2.out hc3); clear hc3 z0 z1 z2 z3 z4 q0 q1 q2 q3 q4; obtain ⟨⟨z0, z1, z2, z3, z4⟩, ⟨q0, q1, q2, q3, q4⟩⟩ := hBx.out w3 h3.out))
     go_ret
     exact ⟨by simp, bl_step hB.out h3.out⟩
 · have GL := hid (fun u hu => longYes _ _ _ _ g u (hKp.out u hu) hf)
   clear hV hV' hB1 hBx9 hKp hKq hf HD HW hall
   generalize g.start = st at *
   generalize h.start = st' at *
   go_enter Tryz.func5, Tryz.ntmps5
   go_wp2_with (first
    | (go_at_call 8; refine GW.out.mono ?_; clear GW; rintro e w1 ⟨rfl, hc1⟩; have h1 := hid hc1; clear hc1 z0 z1 z2 z3 z4 q0 q1 q2 q3 q4 hW; obtain ⟨⟨z0, z1, z2, z3, z4⟩, ⟨q0, q1, q2, q3, q4⟩⟩ := hBx.out w1 h1.out)
    | (go_at_call 9; refine (GL.out w1 h1.out).mono ?_; clear GL; rintro e w2 ⟨rfl, hc2⟩; have h2 := hid (bl_step h1.out hc2); clear hc2 z0 z1 z2 z3 z4 q0 q1 q2 q3 q4; obtain ⟨⟨z0, z1, z2, z3, z4⟩, ⟨q0, q1, q2, q3, q4⟩⟩ := hBx.out w2 h2.out))
   go_ret
   exact ⟨by simp, bl_step hB.out h2.out⟩

end Go.Proofs.YtloaikjealcbmaaGreat
