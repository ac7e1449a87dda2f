/- What is asked of package gram stands: Parse, Terms, Name. A strings.Builder of the call's own: copyCheck, WriteString; kept. Package diff: Text. Package diff: prods. -/
import Derived.Test.YtloaikjealcbmaaGreatK35
import Derived.Test.YtloaikjealcbmaaGreatK15
import Derived.Test.YtloaikjealcbmaaGreatK12
import Derived.Test.YtloaikjealcbmaaGreatK16
import Derived.Test.YtloaikjealcbmaaGreatK23
import Derived.Test.YtloaikjealcbmaaGreatK20
import Derived.Lib.OthersKept
namespace Go.Proofs.YtloaikjealcbmaaGreat
open Go.RowKit Go.Maps

theorem prs_none {s : Txt} (h : prs s = none) : (prsE s).2 ≠ 0 := by
 unfold prs at h
 split at h
 · cases h
 · assumption
theorem ex1_words : (wrdA ex1).2.2 = 0 := by decide +kernel
theorem ex1_err : (rdS ex1).settle.err = 0 := by decide +kernel
theorem ex2_words : (wrdA ex2).2.2 = 0 := by decide +kernel
theorem ex2_err : (rdS ex2).settle.err = 5 ∧ (rdS ex2).settle.pl = 3 := by decide +kernel
theorem prs_of {s : Txt} (h0 : (wrdA s).2.2 = 0) (he : (rdS s).settle.err = 0) : prs s = some (prsG s) := by
 have h1 : (prsE s).2 = 0 := by
  unfold prsE
  rw [if_pos h0]
  exact he
 unfold prs
 rw [if_pos h1]
theorem ex1_prs : prs ex1 = some (prsG ex1) := prs_of ex1_words ex1_err
theorem prsOK : PrsOK prs where
 yes s g u hs h := by
  obtain ⟨h0, he, -, rfl⟩ := prs_some h
  exact parseGood12 s u hs h0 he
 no s u hs h := by
  have h := prs_none h
  by_cases h0 : (wrdA s).2.2 = 0
  · have he : (rdS s).settle.err ≠ 0 := by
     unfold prsE at h
     rw [if_pos h0] at h
     exact h
    refine (parseFault12 s u hs h0 he).mono ?_
    rintro e w' ⟨rfl, hb⟩
    exact ⟨none, none, none, none, 0, 0, 0, 0, 0, _, _, rfl, he, hb⟩
  · refine (parseB s u hs h0).mono ?_
    rintro e w' ⟨rfl, hb⟩
    exact ⟨none, none, none, none, 0, 0, 0, 0, 0, _, _, rfl, h0, hb⟩
 ex := ⟨prsG ex1, ex1_prs, by decide +kernel, by decide +kernel, fun h => by
  have h1 : (prsG ex1).prods.map Pd.right = [[1, 2], []] := by decide +kernel
  have h2 : ((prsG ex1).prods.map Pd.right)[0]'(by rw [List.length_map]; exact h) = [1, 2] := by simp only [h1]; rfl
  rwa [List.getElem_map] at h2⟩
 bad u := by
  refine (parseFault12 ex2 u (by decide) ex2_words (by rw [ex2_err.1]; decide)).mono ?_
  rintro e w' ⟨rfl, hb⟩
  rw [ex2_err.1, ex2_err.2]
  exact ⟨none, none, none, none, 0, 0, 0, 0, 0, rfl, hb⟩
 bnd _ _ h := prs_bnd h
set_option maxRecDepth 20000 in
set_option maxHeartbeats 8000000 in
theorem gNameC (g : Gm) (n : Int) (rv nv lv pv : Value) (w : World) (hV : GmV w rv nv lv pv g) (hn : n ≤ 9223372036854775807) (hB : BndG g) (hnm : (g.name n).length ≤ 281474976710656) :
 Calls Tryz.prog 29 #[gmA rv nv lv pv g.start, .int .i64 n] w fun e w' => e = .returned (.string (strT (g.name n))) ∧ Below w.heap.size w w' := by
 have hb := hB
 obtain ⟨a, c, rfl⟩ := hV.rules.shape
 obtain ⟨na, nc, rfl⟩ := hV.nonts.shape
 obtain ⟨la, lc, rfl⟩ := hV.levels.shape
 obtain ⟨pa, pc, rfl⟩ := hV.prods.shape
 have hal := al' w (.cells #[.slice a g.rules.length c, .slice na g.nonts.length nc, .slice la g.levels.length lc, .slice pa g.prods.length pc, .int .i64 g.start] 27)
 have hk1 := heap_new w (.cells #[.slice a g.rules.length c, .slice na g.nonts.length nc, .slice la g.levels.length lc, .slice pa g.prods.length pc, .int .i64 g.start] 27)
 have hV1 := hV.keep hal
 obtain ⟨W1, hW1⟩ : ∃ x, w.alloc (.cells #[.slice a g.rules.length c, .slice na g.nonts.length nc, .slice la g.levels.length lc, .slice pa g.prods.length pc, .int .i64 g.start] 27) = x := ⟨_, rfl⟩
 rw [hW1] at hal hk1 hV1
 have GN := hid (gnameC g n _ _ _ _ W1 hV1 hn (by have := hb.rules; omega) (by have := hb.nonts; omega))
 have GC := hid (fun u => cloneC (strT (g.name n)) u (by have := strT_size (g.name n); omega))
 have hB1 := hid hal
 obtain ⟨y0, y1, y2, y3, y4⟩ := cells5m hk1
 clear hal hk1 hV hV1 hb hB hnm
 generalize strT (g.name n) = U at *
 generalize g.rules.length = rn at *
 generalize g.nonts.length = nn at *
 generalize g.levels.length = ll at *
 generalize g.prods.length = pp at *
 generalize g.start = st at *
 go_enter Tryz.func29, Tryz.ntmps29
 go_wp2_with (first
  | (go_at_call 52; refine GN.out.mono ?_; clear GN; rintro e w2 ⟨rfl, h2⟩; have h2 := hid (bl_step hB1.out h2))
  | (go_at_call 51; refine (GC.out _).mono ?_; clear GC; rintro e w3 ⟨rfl, h3⟩; have h3 := hid (bl_step h2.out h3)))
 go_ret
 exact ⟨rfl, h3.out⟩

end Go.Proofs.YtloaikjealcbmaaGreat
namespace Go.Proofs.YtloaikjealcbmaaGreat
open Go.RowKit Go.Maps

set_option maxRecDepth 20000 in
theorem szBld : (Tryz.prog.info? 119).map (fun i => i.size) = some 2 := by kernel_rfl
set_option maxRecDepth 20000 in
theorem liesBld : liesAt Tryz.prog Tryz.prog.depth 119 (2 / Tryz.prog.cellsOf 119) 0 119 1 = true := by kernel_rfl
/-- a builder that has been written to -/
abbrev BldU (w : World) (B b : Nat) (bs : List Value) : Prop := Lib.BuilderAt 119 5 B b (.pointer (some ⟨b, 0, none⟩)) bs w
abbrev BldA (w : World) (B b : Nat) (bs : List Value) : Prop := Lib.IsBuilder 119 5 B b bs w
set_option maxRecDepth 20000 in
set_option maxHeartbeats 1000000 in
theorem chkUsed (b : Nat) (w : World) (h0 : w.cell? ⟨b, 0, none⟩ = some (.pointer (some ⟨b, 0, none⟩))) :
 Calls Tryz.prog 87 #[.pointer (some ⟨b, 0, none⟩)] w fun e w' => e = .returned (.tuple #[]) ∧ w' = w := by
 obtain ⟨j, hj, _⟩ := Option.map_eq_some_iff.1 szBld
 have hne := Lib.run_neq_ptr_same (P := Tryz.prog) w ⟨b, 0, none⟩ Tryz.underlying116 hj
 go_enter Tryz.func87, Tryz.ntmps87
 go_wp2
 go_end0
 exact ⟨rfl, rfl⟩
set_option maxRecDepth 20000 in
set_option maxHeartbeats 1000000 in
theorem chkFresh (b : Nat) (w : World) (h0 : w.cell? ⟨b, 0, none⟩ = some (.pointer none)) (hsh : w.shape? b = some (119, 2)) (hfz : w.frozen? ⟨b, 0, none⟩ = false) :
 Calls Tryz.prog 87 #[.pointer (some ⟨b, 0, none⟩)] w fun e w' => e = .returned (.tuple #[]) ∧ w' = w.setCell ⟨b, 0, none⟩ (.pointer (some ⟨b, 0, none⟩)) := by
 obtain ⟨j, hj, hjs⟩ := Option.map_eq_some_iff.1 szBld
 have r1 := Lib.run_to_unsafe (P := Tryz.prog) w ⟨b, 0, none⟩ Tryz.underlying116 Tryz.underlying160 hj (by rw [hjs]; decide) hsh (Nat.zero_lt_succ 1)
 have r2 := Lib.run_from_unsafe (P := Tryz.prog) w ⟨b, 0, none⟩ Tryz.underlying160 Tryz.underlying116 hj hsh liesBld
 have r3 : ∀ (x : Value) (u : World), (callFunc 119 #[x]).run Tryz.prog u = .ok (.value x) u := fun x u => by
  rw [run_callFunc_extern Tryz.func119 (by kernel_rfl) (by kernel_rfl) (by kernel_rfl) (e := Extern.AbiNoEscape.same) (by kernel_rfl), Lib.run_noEscape]
  rfl
 go_enter Tryz.func87, Tryz.ntmps87
 go_wp2
 go_end0
 exact ⟨rfl, rfl⟩
set_option maxRecDepth 20000 in
theorem chkC (B b : Nat) (bs : List Value) (w : World) (h : BldA w B b bs) :
 Calls Tryz.prog 87 #[.pointer (some ⟨b, 0, none⟩)] w fun e w' => e = .returned (.tuple #[]) ∧ BldU w' B b bs ∧ Below B w w' ∧ Lib.OthersKept 5 (some b) w w' := by
 rcases h with h | h
 · refine (chkFresh b w h.cell0 h.shape h.frozen0).mono ?_
   rintro e w' ⟨rfl, rfl⟩
   exact ⟨rfl, h.used _, (Below.refl B w).setCell (p := ⟨b, 0, none⟩) h.1 _, (Lib.OthersKept.refl _ _ w).setCell ⟨b, 0, none⟩ rfl _⟩
 · refine (chkUsed b w h.cell0).mono ?_
   rintro e w' ⟨rfl, rfl⟩
   exact ⟨rfl, h, Below.refl B _, Lib.OthersKept.refl _ _ _⟩
set_option maxRecDepth 20000 in
set_option maxHeartbeats 2000000 in
theorem putStrC (B b : Nat) (t s : Txt) (w : World) (h : BldA w B b (Lib.byteCells t)) (hlen : t.length + s.length ≤ 1000000000) (hBw : B ≤ w.heap.size) :
 Calls Tryz.prog 68 #[.pointer (some ⟨b, 0, none⟩), .string (strT s)] w fun e w' => e = .returned (.tuple #[.int .i64 (s.length : Int), .nilIface]) ∧ BldU w' B b (Lib.byteCells (t ++ s)) ∧ Below B w w' ∧ Lib.OthersKept 5 (some b) w w' := by
 have hsz := strT_size s
 obtain ⟨i0, hi, hz0, hz1, hz2⟩ := info_parts szByte
 have GC := hid (chkC B b _ w h)
 have happ : Hid (Lib.byteCells t ++ Lib.strCells (strT s) = Lib.byteCells (t ++ s)) := hid (by rw [Lib.byteCells_append]; rfl)
 go_enter Tryz.func68, Tryz.ntmps68
 go_wp2_with (go_at_call 87; refine GC.out.mono ?_; clear GC)
 rintro e w1 ⟨rfl, h1, hb1, hk1⟩
 obtain ⟨hB, v, hbk, hown, hne⟩ := h1
 rw [Lib.byteCells_length] at hown
 obtain ⟨c0, c1, -, -⟩ := cells2m hbk
 have hbs := hb1.size
 have hlt := blk_lt hbk
 go_wp2_with (at_builtin; refine Lib.wpList_append_own_string _ rfl _ _ 117 9 rfl B 5 i0 Tryz.underlying117 Tryz.underlying9 hi hz0 hz1 hz2 _ _ _ rfl hown (strT s) rfl (by (unfold maxLen); omega) (by omega) (by omega) ?_)
 intro v' w2 hown' hgrow _
 have hb2 : w2.heap[b]? = some (.cells #[.pointer (some ⟨b, 0, none⟩), v] 119 (0, 0)) := (hgrow.block b hlt (fun e => hne e.symm)).trans hbk
 obtain ⟨d0, d1, -, f1⟩ := cells2m hb2
 obtain ⟨ao, cp, hv'⟩ := own_shape hown'
 subst hv'
 go_wp2
 go_ret2
 refine ⟨rfl, ?_, ?_, (hk1.grown hgrow (rowKind hown)).setCell ⟨b, 1, none⟩ rfl _⟩
 · have := Lib.BuilderAt.put (T := 119) (e := 5) hB hb2 (bs' := Lib.byteCells t ++ Lib.strCells (strT s)) (by rw [List.length_append, Lib.strCells_length, Lib.byteCells_length, strT_size]; exact hown') (by decide)
   rw [happ.out] at this
   exact this
 · exact (hb1.grown hgrow (by omega) (fun k hk => (hown.lt k hk).1)).setCell (p := ⟨b, 1, none⟩) hB _
theorem bldKeep {w u : World} {B b : Nat} {p : Value} {bs : List Value} (h : Lib.BuilderAt 119 5 B b p bs w) (hu : Below w.heap.size w u) : Lib.BuilderAt 119 5 B b p bs u := by
 obtain ⟨hB, v, hbk, hown, hne⟩ := h
 exact ⟨hB, v, hs_keep hbk hu, own_below hown hu, hne⟩
theorem bldKeepA {w u : World} {B b : Nat} {bs : List Value} (h : BldA w B b bs) (hu : Below w.heap.size w u) : BldA u B b bs := h.imp (fun h => bldKeep h hu) (fun h => bldKeep h hu)
theorem bldNew (w : World) : BldA (w.alloc (.cells #[.pointer none, .slice none 0 0] 119)) w.heap.size w.heap.size (Lib.byteCells []) :=
 .inl ⟨Nat.le_refl _, .slice none 0 0, heap_new w _, World.ownsRow_nil _ _ _ _, fun h => by cases h⟩

end Go.Proofs.YtloaikjealcbmaaGreat
namespace Go.Proofs.YtloaikjealcbmaaGreat
open Go.RowKit Go.Maps Go.Sort

theorem SndG.nm9 {g : Gm} (h : SndG g) : Nm100 g := fun n => by
 have hall : ∀ t ∈ g.names, t.length ≤ 100 := fun t ht => by
  have h9 : ∀ t ∈ g.allN, t.length ≤ 100 := fun t ht => by
   have := h.named t ht
   unfold namB at this
   simp only [Bool.and_eq_true, decide_eq_true_eq] at this
   omega
  unfold Gm.names nmsK at ht
  rw [List.mem_append, List.mem_cons, List.mem_map] at ht
  rcases ht with (rfl | ⟨r, hr, rfl⟩) | ht
  · decide
  · have hr := (List.mem_filter.1 hr).1
    rw [List.take_length] at hr
    exact h9 _ (List.mem_append_left _ (List.mem_map_of_mem hr))
  · exact h9 _ (List.mem_append_right _ ht)
 unfold Gm.name
 split
 · exact Nat.zero_le _
 · rw [List.getD_eq_getElem?_getD]
   cases hq : g.names[n.toNat]? with
   | none => exact Nat.zero_le _
   | some t => exact hall t (List.mem_of_getElem? hq)
set_option maxRecDepth 20000 in
set_option maxHeartbeats 16000000 in
theorem textC (rv nv lv pv : Value) (g : Gm) (k : Nat) (w : World) (hV : GmV w rv nv lv pv g) (hk : k < g.prods.length) (hBn : BndG g) (hN : Nm100 g) (hsym : ∀ n ∈ g.prods[k].prec :: g.prods[k].left :: g.prods[k].right, n ≤ 9223372036854775807) :
 Calls Tryz.prog 49 #[gmA rv nv lv pv g.start, .int .i64 (k : Int)] w fun e w' => e = .returned (.string (strT (ptxt g g.prods[k]))) ∧ Below w.heap.size w w' := by
 obtain ⟨pa, pc, rfl⟩ := hV.prods.shape
 have hB1 := al' w (.cells #[rv, nv, lv, .slice pa g.prods.length pc, .int .i64 g.start] 27)
 have k1 := heap_new w (.cells #[rv, nv, lv, .slice pa g.prods.length pc, .int .i64 g.start] 27)
 obtain ⟨W, hW⟩ : ∃ x, w.alloc (.cells #[rv, nv, lv, .slice pa g.prods.length pc, .int .i64 g.start] 27) = x := ⟨_, rfl⟩
 rw [hW] at hB1 k1
 have hVW := hV.keep hB1
 obtain ⟨b, o, q1, q3, e, d0, d1, d2, dr⟩ : ∃ b o q1 q3, pa = some ⟨b, o, none⟩ ∧ W.cell? ⟨b, o + k * 3, none⟩ = some (.int .i64 g.prods[k].left) ∧ W.cell? ⟨b, o + k * 3 + 1, none⟩ = some (.slice q1 g.prods[k].right.length q3) ∧ W.cell? ⟨b, o + k * 3 + 2, none⟩ = some (.int .i64 g.prods[k].prec) ∧ Nums W (.slice q1 g.prods[k].right.length q3) g.prods[k].right := by
  obtain ⟨b, o, e, -, v, h0, h1, h2, hN⟩ := hVW.prods.at hk
  obtain ⟨q1, q3, rfl, -⟩ := id hN
  exact ⟨b, o, q1, q3, e, h0, h1, h2, hN⟩
 subst e
 have hrr := hBn.right _ (List.getElem_mem hk)
 have hpl := hBn.prods
 have GN := hid (fun (j : Int) (hj : j ≤ 9223372036854775807) (u : World) (hu : Below W.heap.size W u) => gNameC g j rv nv lv _ u (hVW.keep hu) hj hBn (by have := hN j; omega))
 have hK0 : Hid (ptxK g g.prods[k] 0 = g.name g.prods[k].left ++ [58]) := hid (by unfold ptxK; simp)
 have hKs := hid (fun j (hj : j < g.prods[k].right.length) => ptxK_succ (g := g) (p := g.prods[k]) hj)
 have hKe : Hid (ptxt g g.prods[k] = ptxK g g.prods[k] g.prods[k].right.length ++ [32, 37, 32] ++ g.name g.prods[k].prec) := hid rfl
 have hKl := hid (fun j => ptxK_len hN g.prods[k] j)
 have hNl := hid hN
 have hsl := hsym g.prods[k].left (List.mem_cons_of_mem _ List.mem_cons_self)
 have hsp := hsym g.prods[k].prec List.mem_cons_self
 have hsr := hid (fun n hn => hsym n (List.mem_cons_of_mem _ (List.mem_cons_of_mem _ hn)))
 generalize ptxt g g.prods[k] = R at *
 generalize ptxK g g.prods[k] = F at *
 generalize g.prods[k] = pd at *
 obtain ⟨rl, hrl⟩ : ∃ n, Hid (pd.right.length = n) := ⟨_, hid rfl⟩
 rw [hrl.out] at hrr hKe d1 dr
 have hkz : ¬ (k : Int) < 0 := by omega
 have hkz2 : ¬ (g.prods.length : Int) ≤ (k : Int) := by omega
 have hX := al' W (.cells #[.int .i64 pd.left, .slice q1 rl q3, .int .i64 pd.prec] 50)
 have x1 := heap_new W (.cells #[.int .i64 pd.left, .slice q1 rl q3, .int .i64 pd.prec] 50)
 obtain ⟨X, hXe⟩ : ∃ x, W.alloc (.cells #[.int .i64 pd.left, .slice q1 rl q3, .int .i64 pd.prec] 50) = x := ⟨_, rfl⟩
 rw [hXe] at hX x1
 have hY := al' X (.cells #[.pointer none, .slice none 0 0] 119)
 have hNw := bldNew X
 obtain ⟨Y, hYe⟩ : ∃ x, X.alloc (.cells #[.pointer none, .slice none 0 0] 119) = x := ⟨_, rfl⟩
 rw [hYe] at hY hNw


 -- all that lies below the builder stays
 have hcs : Hid (∀ u, Below X.heap.size X u → (u.cell? ⟨w.heap.size, 0, none⟩ = some rv ∧ u.cell? ⟨w.heap.size, 1, none⟩ = some nv ∧ u.cell? ⟨w.heap.size, 2, none⟩ = some lv ∧ u.cell? ⟨w.heap.size, 3, none⟩ = some (.slice (some ⟨b, o, none⟩) g.prods.length pc) ∧ u.cell? ⟨w.heap.size, 4, none⟩ = some (.int .i64 g.start)) ∧ u.cell? ⟨W.heap.size, 0, none⟩ = some (.int .i64 pd.left) ∧ u.cell? ⟨W.heap.size, 1, none⟩ = some (.slice q1 rl q3) ∧ u.cell? ⟨W.heap.size, 2, none⟩ = some (.int .i64 pd.prec)) := hid (fun u hu => by
  have g2 := hs_keep x1 hu
  exact ⟨cells5m (hs_keep k1 (bl_step hX hu)), blk_cell g2 rfl, blk_cell g2 rfl, blk_cell g2 rfl⟩)
 have hrw : Hid (∀ u, Below X.heap.size X u → ∀ j, j < rl → ∃ b' o', q1 = some ⟨b', o', none⟩ ∧ u.cell? ⟨b', o' + j, none⟩ = some (.int .i64 (pd.right.getD j 0))) := hid (fun u hu j hj => by
  have hh : (.slice q1 rl q3 : Value) = .slice q1 pd.right.length q3 := by rw [hrl.out]
  obtain ⟨b', o', cap, e', _, _, hc⟩ := (dr.keep (bl_step hX hu)).at (by rw [hrl.out]; omega)
  injection e' with e1 _ _
  exact ⟨b', o', e1, Nums.getD hc j (by rw [hrl.out]; exact hj)⟩)
 have hbW := hid (fun u (hu : Below X.heap.size X u) => bl_step hX hu)
 have hbw := hid (fun u (hu : Below X.heap.size X u) => bl_step hB1 (bl_step hX hu))
 have GS := hid (fun (t s : Txt) (u : World) h1 h2 h3 => putStrC X.heap.size X.heap.size t s u h1 h2 h3)
 have GE := hid (fun (t : Txt) (u : World) h1 h2 => Tryz.Builder_String_any X.heap.size X.heap.size t u h1 h2)
 have GK := hid (fun (u u' : World) (t : Txt) (h1 : BldA u X.heap.size X.heap.size (Lib.byteCells t)) (h2 : Below u.heap.size u u') => bldKeepA h1 h2)
 have hYY : Hid (BldA Y X.heap.size X.heap.size (Lib.byteCells []) ∧ Below X.heap.size X Y) := hid ⟨hNw, hY⟩
 have hd0 := keep_cell hX d0
 obtain ⟨y0, y1, y2, y3, y4⟩ := cells5m k1
 have GN0 := hid (fun u (hu : Below W.heap.size W u) => GN.out pd.left hsl u hu)
 have GN1 := hid (fun u (hu : Below W.heap.size W u) => GN.out pd.prec hsp u hu)
 clear hV hVW hBn hN hsym dr hNw hX hY x1 k1 hB1
 generalize g.prods.length = pn at *
 generalize g.start = st at *
 have hF0 : strT (g.name pd.left) ++ ⟨#[58]⟩ = strT (F 0) := by rw [hK0.out, ← strT_app]; rfl
 have hl0 : (F 0).length ≤ 101 := by have := hKl.out 0; omega
 have s0 : (strT (g.name pd.left)).size ≤ 100 := by rw [strT_size]; exact hNl.out _
 have hc0 : ∀ u, (Op.stringOp .add (strT (g.name pd.left)) ⟨#[58]⟩).run Tryz.prog u = .ok (.string (strT (F 0))) u := fun u => by
  rw [← hF0]
  exact run_cat _ _ u (by have : (⟨#[58]⟩ : ByteArray).size = 1 := rfl; omega)
 generalize strT (g.name pd.left) = N0 at *
 obtain ⟨⟨y0', y1', y2', y3', y4'⟩, -⟩ := hcs.out Y hYY.out.2
 have hp0 := (hcs.out Y hYY.out.2).2.1
 have hd0 := hid hd0
 clear hF0
 obtain ⟨RR, hRR⟩ : ∃ x, Hid (strT R = x) := ⟨_, hid rfl⟩
 rw [hRR.out]
 go_enter Tryz.func49, Tryz.ntmps49
 go_wp2_with (first
  | (go_at_call 29; refine (GN0.out Y (hbW.out Y hYY.out.2)).mono ?_; clear GN0; rintro e w1 ⟨rfl, h1⟩; have hB1 := hid (GK.out Y w1 [] hYY.out.1 h1); have hX1 := hid (bl_step hYY.out.2 h1); clear h1)
  | (go_at_call 68; refine (GS.out [] (F 0) w1 hB1.out (by show 0 + _ ≤ _; omega) hX1.out.size).mono ?_; rintro e w2 ⟨rfl, hU2, hc2, -⟩; have hU2 := hid hU2; have hw2 := hid (hX1.out.trans hc2); clear hc2; obtain ⟨⟨z0, z1, z2, z3, z4⟩, p0, p1, p2⟩ := hcs.out w2 hw2.out))
 clear y0 y1 y2 y3 y4 y0' y1' y2' y3' y4' z0 z1 z2 z3 z4 p0 p1 p2 hp0 hc0 hW hXe hYe d0 d1 d2 hB1 hX1
 go_loopw [32] (fun i wr => ∃ j : Nat, j ≤ rl ∧ i = .int .i64 (j : Int) ∧ Hid (BldA wr X.heap.size X.heap.size (Lib.byteCells (F j))) ∧ Hid (Below X.heap.size X wr)) (fun i _ => rl - (intOf i).toNat)
 case atStart => exact ⟨0, Nat.zero_le _, rfl, hid (.inr hU2.out), hw2⟩
 case round =>
  obtain ⟨j, hj, rfl, hB, hw⟩ := hrel
  obtain ⟨⟨z0, z1, z2, z3, z4⟩, p0, p1, p2⟩ := hcs.out wr hw.out
  have hwsz := hw.out.size
  by_cases hlt : j < rl
  · have hltz : (j : Int) < (rl : Int) := by omega
    have hjl : j < pd.right.length := by rw [hrl.out]; exact hlt
    obtain ⟨b', o', rfl, c0⟩ := hrw.out wr hw.out j hlt
    have hin : pd.right.getD j 0 ∈ pd.right := by
     rw [List.getD_eq_getElem?_getD, List.getElem?_eq_getElem hjl, Option.getD_some]
     exact List.getElem_mem hjl
    have GN9 := hid (GN.out (pd.right.getD j 0) (hsr.out _ hin) wr (hbW.out wr hw.out))
    have hs9 := hKs.out j hjl
    have e9 : pd.right[j] = pd.right.getD j 0 := by rw [List.getD_eq_getElem?_getD, List.getElem?_eq_getElem hjl, Option.getD_some]
    rw [e9] at hs9
    clear e9 hin
    have s0 : (strT (g.name (pd.right.getD j 0))).size ≤ 100 := by rw [strT_size]; exact hNl.out _
    have hl1 : (32 :: g.name (pd.right.getD j 0)).length ≤ 101 := by rw [List.length_cons]; have := hNl.out (pd.right.getD j 0); omega
    have hl2 : (F j).length ≤ 200000 := by have := hKl.out j; omega
    have hc0 : ∀ u, (Op.stringOp .add ⟨#[32]⟩ (strT (g.name (pd.right.getD j 0)))).run Tryz.prog u = .ok (.string (strT (32 :: g.name (pd.right.getD j 0)))) u := fun u => by
     rw [show strT (32 :: g.name (pd.right.getD j 0)) = ⟨#[32]⟩ ++ strT (g.name (pd.right.getD j 0)) by rw [show (32 :: g.name (pd.right.getD j 0)) = [32] ++ g.name (pd.right.getD j 0) from rfl, ← strT_app]; rfl]
     exact run_cat _ _ u (by have : (⟨#[32]⟩ : ByteArray).size = 1 := rfl; omega)
    generalize strT (g.name (pd.right.getD j 0)) = N9 at *
    generalize 32 :: g.name (pd.right.getD j 0) = T9 at *
    generalize pd.right.getD j 0 = x9 at *
    have hs9 := hid hs9
    obtain ⟨T, hT⟩ : ∃ T, Hid (F j = T) := ⟨_, hid rfl⟩
    rw [hT.out] at hB hl2
    have hs9 : Hid (F (j + 1) = T ++ T9) := hid (by rw [← hT.out]; exact hs9.out)
    go_wp2_with (first
     | (go_at_call 29; refine GN9.out.mono ?_; clear GN9; rintro e w1 ⟨rfl, h1⟩; have hB1 := hid (GK.out wr w1 T hB.out h1); have hX1 := hid (bl_step hw.out h1); clear h1)
     | (go_at_call 68; refine (GS.out T T9 w1 hB1.out (by omega) hX1.out.size).mono ?_; rintro e w2 ⟨rfl, hU2, hc2, -⟩; have hU2 := hid hU2; have hw2 := hid (hX1.out.trans hc2); clear hc2))
    go_roundw
    case rel => exact ⟨j + 1, by omega, by go_num, hid (.inr (by rw [hs9.out]; exact hU2.out)), hw2⟩
    case measure => simp [intOf]; omega
  · have hltz : ¬ (j : Int) < (rl : Int) := by omega
    obtain rfl : rl = j := by omega
    have GN9 := hid (GN1.out wr (hbW.out wr hw.out))
    have s0 : (strT (g.name pd.prec)).size ≤ 100 := by rw [strT_size]; exact hNl.out _
    have hl1 : ([32, 37, 32] ++ g.name pd.prec).length ≤ 103 := by rw [List.length_append]; have := hNl.out pd.prec; show 3 + _ ≤ _; omega
    have hl2 : (F rl).length ≤ 200000 := by have := hKl.out rl; omega
    have hc0 : ∀ u, (Op.stringOp .add ⟨#[32, 37, 32]⟩ (strT (g.name pd.prec))).run Tryz.prog u = .ok (.string (strT ([32, 37, 32] ++ g.name pd.prec))) u := fun u => by
     rw [show strT ([32, 37, 32] ++ g.name pd.prec) = ⟨#[32, 37, 32]⟩ ++ strT (g.name pd.prec) by rw [← strT_app]; rfl]
     exact run_cat _ _ u (by have : (⟨#[32, 37, 32]⟩ : ByteArray).size = 3 := rfl; omega)
    have hKe : Hid (R = F rl ++ ([32, 37, 32] ++ g.name pd.prec)) := hid (by rw [hKe.out, List.append_assoc])
    generalize strT (g.name pd.prec) = N9 at *
    generalize [32, 37, 32] ++ g.name pd.prec = T9 at *
    obtain ⟨T, hT⟩ : ∃ T, Hid (F rl = T) := ⟨_, hid rfl⟩
    rw [hT.out] at hB hl2 hKe
    clear hltz hlt hj
    go_wp2_with (first
     | (go_at_call 29; refine GN9.out.mono ?_; clear GN9; rintro e w1 ⟨rfl, h1⟩; have hB1 := hid (GK.out wr w1 T hB.out h1); have hX1 := hid (bl_step hw.out h1); clear h1)
     | (go_at_call 68; refine (GS.out T T9 w1 hB1.out (by omega) hX1.out.size).mono ?_; rintro e w2 ⟨rfl, hU2, hc2, -⟩; have hU2 := hid hU2; have hw2 := hid (hX1.out.trans hc2); clear hc2)
     | (go_at_call 69; refine (GE.out (T ++ T9) w2 (.inr hU2.out) hw2.out.size).mono ?_; rintro e w3 ⟨rfl, hc3⟩; have hw3 := hid (hw2.out.trans hc3)))
    go_ret
    exact ⟨by rw [← hRR.out, hKe.out]; rfl, hbw.out _ hw3.out⟩

end Go.Proofs.YtloaikjealcbmaaGreat
namespace Go.Proofs.YtloaikjealcbmaaGreat
open Go.RowKit Go.Maps Go.Sort

/-- what a call of prods leaves -/
def PrA (TG TH : List Txt) (w : World) (e : Ending) (w' : World) : Prop := ∃ kv gv nv, e = .returned (.agg #[kv, gv, nv, .bool false, .bool false, .bool false]) ∧ (OwnP w' w.heap.size kv (dfPrs TG TH) ∧ Own w' w.heap.size gv (dfGone TG TH) ∧ Own w' w.heap.size nv (dfNew TG TH)) ∧ Below w.heap.size w w'
theorem SndG.syms {g : Gm} (h : SndG g) {k : Nat} (hk : k < g.prods.length) : (∀ n ∈ g.prods[k].prec :: g.prods[k].left :: g.prods[k].right, n ≤ 9223372036854775807) ∧ g.prods[k].right.length ≤ 30 := by
 have hp := h.prod _ (List.getElem_mem hk)
 unfold pdB at hp
 simp only [Bool.and_eq_true, decide_eq_true_eq, List.all_eq_true] at hp
 obtain ⟨⟨⟨⟨⟨h1, h2⟩, h3⟩, h4⟩, h5⟩, h6⟩ := hp
 have hr := h.rules
 have hn := h.nonts
 have ht := terms_leD g
 have ha : g.all = g.terms + g.nonts.length := rfl
 refine ⟨fun n hn9 => ?_, by omega⟩
 rcases List.mem_cons.1 hn9 with rfl | hn9
 · omega
 · rcases List.mem_cons.1 hn9 with rfl | hn9
   · omega
   · have := (h6 n hn9).2
     omega
set_option maxRecDepth 20000 in
theorem textS {g : Gm} (h : SndG g) (bg : BndG g) {rv nv lv pv : Value} (k : Nat) (u : World) (hV : GmV u rv nv lv pv g) (hk : k < (txtsG g).length) :
 Calls Tryz.prog 49 #[gmA rv nv lv pv g.start, .int .i64 (k : Int)] u fun e w' => e = .returned (.string (strT ((txtsG g).getD k []))) ∧ Below u.heap.size u w' := by
 have hk9 : k < g.prods.length := by rw [← txtsG_len]; exact hk
 rw [txtsG_at hk9]
 exact textC rv nv lv pv g k u hV hk9 bg h.nm9 (h.syms hk9).1
theorem txt_short {g : Gm} (h : SndG g) (k : Nat) : ((txtsG g).getD k []).length ≤ 1000000 := by
 rcases Nat.lt_or_ge k g.prods.length with hk | hk
 · rw [txtsG_at hk]
   have := ptxt_len h.nm9 g.prods[k] (h.syms hk).2
   omega
 · rw [List.getD_eq_getElem?_getD, List.getElem?_eq_none (by rw [txtsG_len]; exact hk)]
   exact Nat.zero_le _
theorem ChO.doneP {τ : Nat → Nat} {W wr U : World} {q rb N : Nat} {tv kv gv nv : Value} {kept : List Int} {prs : List (Int × Int)} {gone new : List Int} {a b s : Bool} (h : ChO τ W wr q tv kv gv nv kept prs gone new a b s) (hrb : rb < W.heap.size) (hN : N ≤ W.heap.size) (hk : Kept (oneBlk rb) wr U) : OwnP U N kv prs ∧ Own U N gv gone ∧ Own U N nv new := by
 have hne : ∀ k, W.heap.size ≤ k → ¬ oneBlk rb k := fun k h1 e => by have : k = rb := e; omega
 exact ⟨own_base (own_keep h.pr fun k e => hk.block k (h.pr.lt k e).2 (hne k (h.pr.lt k e).1)) hN, own_base (own_keep h.go fun k e => hk.block k (h.go.lt k e).2 (hne k (h.go.lt k e).1)) hN, own_base (own_keep h.nw fun k e => hk.block k (h.nw.lt k e).2 (hne k (h.nw.lt k e).1)) hN⟩
/-- what is gone is sorted in its row -/
theorem ChO.sorted {τ : Nat → Nat} {w0 w u : World} {cb : Nat} {tv kv gv nv : Value} {kept : List Int} {prs : List (Int × Int)} {gone gone' new : List Int} {a b s : Bool} (h : ChO τ w0 w cb tv kv gv nv kept prs gone new a b s) (ho : Own u w0.heap.size gv gone') (hg : w.grownBy u gv.ownBlock) : ChO τ w0 u cb tv kv gv nv kept prs gone' new a b s :=
 ⟨(hg.block cb (blk_lt h.blk) (tag_ne h.t3 h.t0 (by decide))).trans h.blk, below_grown h.low h.go hg, h.c0, h.kt.kept hg (tag_off h.t1 h.t3 (by decide)), h.pr.kept hg (tag_off h.t2 h.t3 (by decide)), ho, h.nw.kept hg (tag_off h.t4 h.t3 (by decide)), h.t0, h.t1, h.t2, h.t3, h.t4⟩
set_option maxRecDepth 20000 in
set_option maxHeartbeats 16000000 in
theorem diffPrC (g h : Gm) (rv nv lv pv rv' nv' lv' pv' : Value) (w : World) (hV : GmV w rv nv lv pv g) (hV' : GmV w rv' nv' lv' pv' h) (bg : BndG g) (bh : BndG h) (hg : SndG g) (hh : SndG h) :
 Calls Tryz.prog 26 #[gmA rv nv lv pv g.start, gmA rv' nv' lv' pv' h.start] w (PrA (txtsG g) (txtsG h) w) := by
 obtain ⟨pa, pc, rfl⟩ := hV.prods.shape
 obtain ⟨pa', pc', rfl⟩ := hV'.prods.shape
 obtain ⟨W, hW, hB1, hrb, hBx9⟩ := boxes3 w rv nv lv (.slice pa g.prods.length pc) rv' nv' lv' (.slice pa' h.prods.length pc') g.start h.start
 have hB := hid hB1
 have hBx := hid hBx9
 have GT := hid (fun k u (hu : Below W.heap.size W u) hk => textS hg bg k u (hV.keep (bl_step hB1 hu)) hk)
 have GT' := hid (fun k u (hu : Below W.heap.size W u) hk => textS hh bh k u (hV'.keep (bl_step hB1 hu)) hk)
 have hts := hid (fun k => txt_short hg k)
 have hts' := hid (fun k => txt_short hh k)
 have hpl := hg.prods
 have hpl' := hh.prods
 have hTG : Hid ((txtsG g).length = g.prods.length) := hid (txtsG_len g)
 have hTH : Hid ((txtsG h).length = h.prods.length) := hid (txtsG_len h)
 generalize txtsG g = TG at *
 generalize txtsG h = TH at *
 generalize g.prods.length = pn at *
 generalize h.prods.length = pm at *
 generalize g.start = st at *
 generalize h.start = st' at *
 clear hV hV' bg bh hg hh hB1 hBx9
 have hZ0 : Hid (W.heap[w.heap.size + 1 + 1]? = some (.cells #[.slice none 0 0, .slice none 0 0, .slice none 0 0, .bool false, .bool false, .bool false] 34)) := hid hrb
 clear hrb
 obtain ⟨V, hVe⟩ : ∃ x, W.alloc (.cells #[.slice none 0 0, .slice none 0 0, .slice none 0 0, .bool false, .bool false, .bool false] 34) = x := ⟨_, rfl⟩
 have hBV : Below W.heap.size W V := by rw [← hVe]; exact al' W _
 have hkV : V.heap[W.heap.size]? = some (.cells #[.slice none 0 0, .slice none 0 0, .slice none 0 0, .bool false, .bool false, .bool false] 34) := by rw [← hVe]; exact heap_new W _
 obtain ⟨X, hXe⟩ : ∃ x, V.alloc (.map #[] 0) = x := ⟨_, rfl⟩
 have hBX : Below V.heap.size V X := by rw [← hXe]; exact al' V _
 have hMX : HMp X V.heap.size 0 (.map []) := by rw [← hXe]; exact World.ownsMap_made V Tryz.prog 9 heldR
 have hL0 := hid (L1M.start (hs_keep hkV hBX) (bl_step hBV hBX) (Nat.le_refl _) hMX (blk_lt hkV) TG)
 clear hMX
 have hmm : ∀ u : World, (Instr.makeMap 96 none).run Tryz.prog u = .ok (.map (some u.heap.size)) (u.alloc (.map #[] 0)) := fun u => by
  simp [Instr.makeMap, Result.andThen]
  first | rfl | skip
 obtain ⟨⟨-, -, -, z3, -⟩, -⟩ := hBx.out X hL0.out.low
 clear hBV hBX hkV
 go_enter Tryz.func26, Tryz.ntmps26
 go_wp2_with fail
 clear hW hVe hXe z3 hmm
 go_loopw [19] (fun i wr => ∃ (m : Nat) (τ : Nat → Txt) (D : HDat), m ≤ pn ∧ i = .int .i64 (m : Int) ∧ Hid (L1M τ W wr W.heap.size V.heap.size m m TG D)) (fun i _ => pn - (intOf i).toNat)
 case atStart => exact ⟨0, _, _, Nat.zero_le _, rfl, hL0⟩
 case round =>
  clear hL0
  obtain ⟨m, τ, D, hm, rfl, hL⟩ := hrel
  obtain ⟨⟨z0, z1, z2, z3, z4⟩, -⟩ := hBx.out wr hL.out.low
  by_cases hlt : m < pn
  · have hltz : (m : Int) < (pn : Int) := by omega
    have G := hid (GT.out m wr hL.out.low (by rw [hTG.out]; exact hlt))
    have hRD : Hid (∀ w1, Below wr.heap.size wr w1 → ∃ a l c, (Instr.lookup 96 (.map (some V.heap.size)) (.string (strT (TG.getD m []))) false).run Tryz.prog w1 = .ok (.slice a l c) w1 ∧
     ∃ v' w2, (Builtin.append_ #[32, 32] 32 #[.slice a l c, .slice (some ⟨w1.heap.size, 0, none⟩) 1 1]).run Tryz.prog (w1.alloc (.cells #[.int .i64 (m : Int)] 3)) = .ok v' w2 ∧
      ∃ w3, (Instr.mapUpdate 96 (.map (some V.heap.size)) (.string (strT (TG.getD m []))) v').run Tryz.prog w2 = .ok () w3 ∧ ∃ τ', L1M τ' W w3 W.heap.size V.heap.size (m + 1) (m + 1) TG (D.put (kyT (TG.getD m [])) (.held v'))) := hid (fun w1 h1 => (hL.out.keep h1).round (by omega) (by omega) _ rfl (hts.out m))
    generalize strT (TG.getD m []) = S9 at *
    generalize kyT (TG.getD m []) = K9 at *
    go_wp2_with (first
     | (go_at_call 49; refine G.out.mono ?_; clear G; rintro e w1 ⟨rfl, hc⟩; obtain ⟨la, ll, lc, hlk, v', w2, hap, w3, hup, τ', hL9⟩ := hRD.out w1 hc; have hL9 := hid hL9; clear hRD hc)
     | (at_builtin; refine wp_run _ rfl _ _ _ rfl _ _ rfl rfl hap ?_; clear hap))
    go_roundw
    case rel => exact ⟨m + 1, τ', _, by omega, by go_num, hL9⟩
    case measure => simp [intOf]; omega
  · have hltz : ¬ (m : Int) < (pn : Int) := by omega
    obtain rfl : m = pn := by omega
    have hL2 : Hid (L2M (fun k => if k = W.heap.size then 0 else if k = V.heap.size then 5 else 9) W wr wr W.heap.size V.heap.size m TG [] (.slice none 0 0) (.slice none 0 0) (.slice none 0 0) [] [] [] D) := hid (L2M.start (by rw [hTG.out]; exact hL.out))
    obtain ⟨-, ⟨-, -, -, q3, -⟩⟩ := hBx.out wr hL.out.low
    clear z0 z1 z2 z4 hL GT hts
    go_wp2
    clear q3 z3 hltz hlt
    obtain ⟨wo, hwo⟩ : ∃ x, x = wr := ⟨_, rfl⟩
    subst hwo
    go_loopw [37] (fun i wr => ∃ (k : Nat) (τ : Nat → Nat) (kv nv : Value) (D : HDat), k ≤ pm ∧ i = .int .i64 (k : Int) ∧ Hid (L2M τ W wo wr W.heap.size V.heap.size (m + k) TG (dfK TG TH k).kept kv (.slice none 0 0) nv (dfK TG TH k).prs [] (dfK TG TH k).new D)) (fun i _ => pm - (intOf i).toNat)
    case atStart => exact ⟨0, _, _, _, _, Nat.zero_le _, rfl, hL2⟩
    case round =>
     clear hL2
     obtain ⟨k, τ, kv, nv, D, hk, rfl, hC⟩ := hrel
     obtain ⟨-, ⟨z0, z1, z2, z3, z4⟩⟩ := hBx.out wr hC.out.ch.low
     have hgd := dfK_good TG TH k
     have hgl := hgd.len
     by_cases hlt : k < pm
     · have hltz : (k : Int) < (pm : Int) := by omega
       have G := hid (GT'.out k wr hC.out.ch.low (by rw [hTH.out]; exact hlt))
       have hts9 := hts'.out k
       have hstp : Hid (dfK TG TH (k + 1) = (dfK TG TH k).step TG k (TH.getD k [])) := hid rfl
       obtain ⟨S', hS'⟩ : ∃ x, Hid (dfK TG TH (k + 1) = x) := ⟨_, hid rfl⟩
       rw [hS'.out] at hstp
       generalize dfK TG TH k = S at *
       generalize TH.getD k [] = t at *
       obtain ⟨kept, prs, new⟩ := S
       dsimp only at hC hgl
       clear hgd
       cases hf : fndK TG kept t with
       | none =>
        have hn9 : Hid (S' = ⟨kept, prs, new ++ [(k : Int)]⟩) := hid (by rw [hstp.out]; unfold DfS.step; rw [show fndK TG (⟨kept, prs, new⟩ : DfS).kept t = none from hf])
        clear hstp
        obtain ⟨na, nc, rfl, -⟩ := Nums.of_row hC.out.ch.nw
        have hRD : Hid (∀ w1, Below wr.heap.size wr w1 → (Instr.lookup 96 (.map (some V.heap.size)) (.string (strT t)) true).run Tryz.prog w1 = .ok (.tuple #[.slice none 0 0, .bool false]) w1 ∧ w1.cell? ⟨W.heap.size, 2, none⟩ = some (.slice na new.length nc) ∧
         ∃ g cap u, (Builtin.append_ #[32, 32] 32 #[.slice na new.length nc, .slice (some ⟨w1.heap.size, 0, none⟩) 1 1]).run Tryz.prog (w1.alloc (.cells #[.int .i64 (k : Int)] 3)) = .ok (.slice (some ⟨g, 0, none⟩) (new.length + 1) cap) u ∧ (u.cell? ⟨W.heap.size, 2, none⟩ = some (.slice na new.length nc) ∧ u.frozen? ⟨W.heap.size, 2, none⟩ = false) ∧
          ∃ τ', L2M τ' W wo (u.setCell ⟨W.heap.size, 2, none⟩ (.slice (some ⟨g, 0, none⟩) (new.length + 1) cap)) W.heap.size V.heap.size (m + (k + 1)) TG kept kv (.slice none 0 0) (.slice (some ⟨g, 0, none⟩) (new.length + 1) cap) prs [] (new ++ [(k : Int)]) D) := hid (fun w1 h1 => by
         have hC1 := hC.out.keep h1
         obtain ⟨g, cap, u, a1, a2, τ', a3⟩ := hC1.appN (k : Int) (by omega)
         exact ⟨hC1.lookNo hts9 hf, hC1.ch.cells.2.2.1, g, cap, u, a1, a2, τ', { a3 with mp := a3.mp.mono (by omega) }⟩)
        clear hf hC hgl hts9
        generalize strT t = S9 at *
        generalize new.length = nl at *
        go_wp2_with (first
         | (go_at_call 49; refine G.out.mono ?_; clear G; rintro e w1 ⟨rfl, hc⟩; obtain ⟨hlk, y2, g7, cap7, u7, hap, ⟨j2, f2⟩, τ', hL9⟩ := hRD.out w1 hc; have hL9 := hid hL9; clear hRD hc)
         | (at_builtin; refine wp_run _ rfl _ _ _ rfl _ _ rfl rfl hap ?_; clear hap))
        go_roundw
        case rel => exact ⟨k + 1, τ', _, _, _, by omega, by go_num, hid (by rw [hS'.out, hn9.out]; exact hL9.out)⟩
        case measure => simp [intOf]; omega
       | some f =>
        have hn9 : Hid (S' = ⟨kept ++ [(f : Int)], prs ++ [((f : Int), (k : Int))], new⟩) := hid (by rw [hstp.out]; unfold DfS.step; rw [show fndK TG (⟨kept, prs, new⟩ : DfS).kept t = some f from hf])
        clear hstp
        obtain ⟨ka, kc, rfl⟩ := (Prs.of_row hC.out.ch.pr).shape
        have hRD : Hid (∀ w1, Below wr.heap.size wr w1 → ∃ b o c, (Instr.lookup 96 (.map (some V.heap.size)) (.string (strT t)) true).run Tryz.prog w1 = .ok (.tuple #[.slice (some ⟨b, o, none⟩) ((lftL TG (kept ++ [(f : Int)]) t).length + 1) (c + 1), .bool true]) w1 ∧
         (w1.cell? ⟨b, o, none⟩ = some (.int .i64 (f : Int)) ∧ w1.cell? ⟨W.heap.size, 0, none⟩ = some (.slice ka prs.length kc) ∧ (w1.alloc (.cells #[.int .i64 (f : Int), .int .i64 (k : Int)] 41)).cell? ⟨b, o, none⟩ = some (.int .i64 (f : Int)) ∧ (w1.alloc (.cells #[.int .i64 (f : Int), .int .i64 (k : Int)] 41)).cell? ⟨W.heap.size, 0, none⟩ = some (.slice ka prs.length kc)) ∧
         ∃ g cap u, (Builtin.append_ #[31, 31] 31 #[.slice ka prs.length kc, .slice (some ⟨w1.heap.size, 0, none⟩) 1 1]).run Tryz.prog ((w1.alloc (.cells #[.int .i64 (f : Int), .int .i64 (k : Int)] 41)).drew) = .ok (.slice (some ⟨g, 0, none⟩) (prs.length + 1) cap) u ∧ (u.cell? ⟨W.heap.size, 0, none⟩ = some (.slice ka prs.length kc) ∧ u.frozen? ⟨W.heap.size, 0, none⟩ = false) ∧
          Hid (∃ τ', L2M τ' W wo (u.setCell ⟨W.heap.size, 0, none⟩ (.slice (some ⟨g, 0, none⟩) (prs.length + 1) cap)) W.heap.size V.heap.size (m + k) TG kept (.slice (some ⟨g, 0, none⟩) (prs.length + 1) cap) (.slice none 0 0) nv (prs ++ [((f : Int), (k : Int))]) [] new D) ∧
          Hid (V.heap.size < b ∧ b < wo.heap.size ∧ (lftL TG (kept ++ [(f : Int)]) t).length ≤ c ∧ ∀ j (h : j < (lftL TG (kept ++ [(f : Int)]) t).length), wo.cell? ⟨b, o + 1 + j, none⟩ = some (.int .i64 (lftL TG (kept ++ [(f : Int)]) t)[j]))) := hid (fun w1 h1 => by
         have hC1 := hC.out.keep h1
         have hC2 := hC1.keep ((Below.refl w1.heap.size w1).drew)
         obtain ⟨b, o, c, a1, a2, a3, a4, a5, a6⟩ := hC1.lookYes hts9 hf
         obtain ⟨c, rfl⟩ : ∃ c', c = c' + 1 := ⟨c - 1, by omega⟩
         obtain ⟨g, cap, u, b1, b2, τ', b3⟩ := hC2.appK (f : Int) (k : Int) (by omega)
         have e1 := hC1.cell a2 a3 a5
         have e2 := hC1.ch.cells.1
         have hal := al' w1 (.cells #[.int .i64 (f : Int), .int .i64 (k : Int)] 41)
         exact ⟨b, o, c, a1, ⟨e1, e2, keep_cell hal e1, keep_cell hal e2⟩, g, cap, u, b1, b2, hid ⟨τ', b3⟩, hid ⟨a2, a3, by omega, a6⟩⟩)
        have hfH := hid hf
        clear hf hC
        obtain ⟨rest9, hr9⟩ : ∃ x, Hid (lftL TG (kept ++ [(f : Int)]) t = x) := ⟨_, hid rfl⟩
        rw [hr9.out] at hRD
        have hts9 := hid hts9
        obtain ⟨S9, hS9⟩ : ∃ x, Hid (strT t = x) := ⟨_, hid rfl⟩
        rw [hS9.out] at hRD
        generalize hpr : prs.length = pl at *
        have hpr := hid hpr
        go_wp2_with (first
         | (go_at_call 49; refine G.out.mono ?_; clear G; rintro e w1 ⟨rfl, hc⟩; rw [hS9.out]; obtain ⟨b, o, c, hlk, ⟨y0, y1, y2, y3⟩, g7, cap7, u7, hap, ⟨j0, f0⟩, hL9, hI9⟩ := hRD.out w1 hc; clear hRD hc))
        clear z0 z1 z2 z3 z4
        apply collapse
        case h =>
         intro rest
         go_region_law ((first
          | (refine step_run (by rfl) (.tmp 58) (.tmp 64) 31 (by rfl) _ _ (by rfl) (by rfl) hap ?_)
          | fail))
         all_goals exact rest.out
        case pf =>
         clear y0 y1 y2 y3 j0 f0 hap hlk
         generalize u7.setCell ⟨W.heap.size, 0, none⟩ (.slice (some ⟨g7, 0, none⟩) (pl + 1) cap7) = U0 at *
         have hst9 : Hid (dfK TG TH (k + 1) = ⟨kept ++ [(f : Int)], prs ++ [((f : Int), (k : Int))], new⟩) := hid (by rw [hS'.out]; exact hn9.out)
         have hnn : m + k ≤ 1000 := by omega
         clear hn9 hS'
         by_cases h0 : rest9 = []
         · subst h0
           have hput : Hid (∀ v, ∃ w', (Instr.mapUpdate 96 (.map (some V.heap.size)) (.string S9) v).run Tryz.prog U0 = .ok () w' ∧ ∃ w'', (∀ ty, (Builtin.delete_ #[96, 9] ty #[.map (some V.heap.size), .string S9]).run Tryz.prog w' = .ok (.tuple #[]) w'') ∧
            Hid (∃ τ' D', L2M τ' W wo w'' W.heap.size V.heap.size (m + (k + 1)) TG (kept ++ [(f : Int)]) (.slice (some ⟨g7, 0, none⟩) (pl + 1) cap7) (.slice none 0 0) nv (prs ++ [((f : Int), (k : Int))]) [] new D')) := hid (fun v => by
            obtain ⟨τ', hL⟩ := hL9.out
            obtain ⟨w', a1, _, w'', a2, a3⟩ := hL.putLast v hts9.out hnn hfH.out hr9.out
            rw [hS9.out] at a1 a2
            exact ⟨w', a1, w'', a2, hid ⟨τ', _, a3⟩⟩)
           clear hL9 hI9 hr9
           have hfin : Hid (∀ w'', Hid (∃ τ' D', L2M τ' W wo w'' W.heap.size V.heap.size (m + (k + 1)) TG (kept ++ [(f : Int)]) (.slice (some ⟨g7, 0, none⟩) (pl + 1) cap7) (.slice none 0 0) nv (prs ++ [((f : Int), (k : Int))]) [] new D') → ∃ (k' : Nat) (τ : Nat → Nat) (kv nv : Value) (D : HDat), k' ≤ pm ∧ Value.int .i64 ((k : Int) + 1) = .int .i64 (k' : Int) ∧ Hid (L2M τ W wo w'' W.heap.size V.heap.size (m + k') TG (dfK TG TH k').kept kv (.slice none 0 0) nv (dfK TG TH k').prs [] (dfK TG TH k').new D)) := hid (fun w'' h9 => by
            obtain ⟨τ', D', a3⟩ := h9.out
            exact ⟨k + 1, τ', _, _, _, by omega, by go_num, hid (by rw [hst9.out]; exact a3)⟩)
           by_cases hc0 : c = 0
           · subst hc0
             obtain ⟨w5, hup, w6, hdel, hL10⟩ := hput.out (.slice (some ⟨b, o, none⟩) 0 0)
             clear hput
             go_wp2
             go_roundw
             case rel => exact hfin.out _ hL10
             case measure => simp [intOf]; omega
           · have hcz : ¬ (c + 1 = 1) := by omega
             obtain ⟨w5, hup, w6, hdel, hL10⟩ := hput.out (.slice (some ⟨b, o + 1, none⟩) 0 c)
             clear hput
             go_wp2
             go_roundw
             case rel => exact hfin.out _ hL10
             case measure => simp [intOf]; omega
         · have h0l : 0 < rest9.length := List.length_pos_iff.2 h0
           have hcl : rest9.length ≤ c := hI9.out.2.2.1
           have hput : ∃ w', (Instr.mapUpdate 96 (.map (some V.heap.size)) (.string S9) (.slice (some ⟨b, o + 1, none⟩) rest9.length c)).run Tryz.prog U0 = .ok () w' ∧
            Hid (∃ τ' D', L2M τ' W wo w' W.heap.size V.heap.size (m + (k + 1)) TG (kept ++ [(f : Int)]) (.slice (some ⟨g7, 0, none⟩) (pl + 1) cap7) (.slice none 0 0) nv (prs ++ [((f : Int), (k : Int))]) [] new D') := by
            obtain ⟨τ', hL⟩ := hL9.out
            obtain ⟨i1, i2, i3, i4⟩ := hI9.out
            have e9 := hr9.out
            subst e9
            obtain ⟨w', a1, _, a2⟩ := hL.putMore hts9.out hnn hfH.out h0 i1 i2 i3 i4
            rw [hS9.out] at a1
            exact ⟨w', a1, hid ⟨τ', _, a2⟩⟩
           obtain ⟨w5, hup, hL10⟩ := hput
           have hfin : Hid (∃ (k' : Nat) (τ : Nat → Nat) (kv nv : Value) (D : HDat), k' ≤ pm ∧ Value.int .i64 ((k : Int) + 1) = .int .i64 (k' : Int) ∧ Hid (L2M τ W wo w5 W.heap.size V.heap.size (m + k') TG (dfK TG TH k').kept kv (.slice none 0 0) nv (dfK TG TH k').prs [] (dfK TG TH k').new D)) := hid (by
            obtain ⟨τ', D', a3⟩ := hL10.out
            exact ⟨k + 1, τ', _, _, _, by omega, by go_num, hid (by rw [hst9.out]; exact a3)⟩)
           clear hL9 hI9 hr9 hL10 h0
           generalize rest9.length = rl at *
           have hcz : ¬ (c + 1 = 1) := by omega
           have hrz : ¬ (rl + 1 = 1) := by omega
           have hrz2 : ((rl : Int) + 1 == 1) = false := by rw [beq_eq_false_iff_ne]; omega
           go_wp2
           go_roundw
           case rel => exact hfin.out
           case measure => simp [intOf]; omega
     · have hltz : ¬ (k : Int) < (pm : Int) := by omega
       obtain rfl : k = pm := by omega
       have eP : Hid (dfPrs TG TH = (dfK TG TH k).prs) := hid (by unfold dfPrs; rw [hTH.out])
       have eN : Hid (dfNew TG TH = (dfK TG TH k).new) := hid (by unfold dfNew; rw [hTH.out])
       have eG : Hid (dfGone TG TH = outL m (dfK TG TH k).kept) := hid (by unfold dfGone; rw [hTH.out, hTG.out])
       clear hgd
       generalize (dfK TG TH k).kept = kept at *
       generalize (dfK TG TH k).prs = prs at *
       generalize (dfK TG TH k).new = new at *
       clear GT' hts' z0 z1 z2 z3 z4
       have hMp := hC.out.mp
       go_wp2_with (first
        | (at_range; refine wpList_range_own _ rfl _ 96 rfl 9 32 (string_keyed Tryz.underlying9) Tryz.underlying96 heldR V.heap.size _ D rfl hMp ?_; intro w0 hrg0 hg0 hs0)
        | go_in)
       try go_frame
       obtain ⟨wm, hwm⟩ : ∃ x, x = wr := ⟨_, rfl⟩
       subst hwm
       obtain ⟨τ3, hR9⟩ := hC.out.range hrg0 hg0
       have hR0 := hid hR9
       have hI0 := hid (GoI.start hC.out)
       clear hR9 hrg0 hg0 hs0 hMp hltz hlt
       go_loopw [81] (fun _ wq => ∃ (τ : Nat → Nat) (left : Lit → Bool) (cnt : Nat) (gv : Value) (gone : List Int), Hid (L3M τ W wo wq W.heap.size V.heap.size wm.heap.size (m + k) TG kept kv gv nv prs gone new D left cnt) ∧ Hid (GoI TG kept left gone)) (fun _ wq => wq.rangeLeft V.heap.size wm.heap.size)
       case atStart => exact ⟨τ3, _, _, _, _, hR0, hI0⟩
       case round =>
        clear hR0 hI0 hC
        obtain ⟨τ, left, cnt, gv, gone, hR, hI⟩ := hrel
        have hsh : Hid (∀ t : Txt, Maps.has D (kyT t) = true → ∃ x : Option Addr × Nat × Nat, ∀ z, D.atKey (kyT t) z = .held ((fun x : Option Addr × Nat × Nat => Value.slice x.1 x.2.1 x.2.2) x)) := hid (fun t ht => by
         obtain ⟨-, v, h1, b, o, c, e, -⟩ := hR.out.l2.yes t ht
         subst e
         exact ⟨(_, _, _), h1⟩)
        obtain ⟨ga, gc, rfl, -⟩ := Nums.of_row hR.out.l2.ch.go
        go_wp2_with (first
         | (at_next; refine wpList_next_held (fun x : Option Addr × Nat × Nat => Value.slice x.1 x.2.1 x.2.2) _ rfl _ rfl V.heap.size wm.heap.size (m + k) D left cnt rfl hR.out.rg hsh.out ?_ ?_)
         | go_in)
        · intro hl0
          have hGd := hI.out.done hl0
          have hgl9 := hI.out.len
          rw [hTG.out] at hGd hgl9
          have hrbl := blk_lt hZ0.out
          obtain ⟨ka, kc, rfl⟩ := (Prs.of_row hR.out.l2.ch.pr).shape
          obtain ⟨na, nc, rfl, -⟩ := Nums.of_row hR.out.l2.ch.nw
          obtain ⟨-, y1, -⟩ := hR.out.l2.ch.cells
          have GS := hid (sortC (.slice ga gone.length gc) gone W.heap.size wr (by omega) hR.out.l2.ch.go)
          have hend : Hid (∀ u3, Own u3 W.heap.size (.slice ga gone.length gc) (msL gone) → wr.grownBy u3 (Value.slice ga gone.length gc).ownBlock → (u3.heap[w.heap.size + 1 + 1]? = some (.cells #[.slice none 0 0, .slice none 0 0, .slice none 0 0, .bool false, .bool false, .bool false] 34)) ∧
           (u3.cell? ⟨W.heap.size, 0, none⟩ = some (.slice ka prs.length kc) ∧ u3.cell? ⟨W.heap.size, 1, none⟩ = some (.slice ga gone.length gc) ∧ u3.cell? ⟨W.heap.size, 2, none⟩ = some (.slice na new.length nc) ∧ u3.cell? ⟨W.heap.size, 3, none⟩ = some (.bool false) ∧ u3.cell? ⟨W.heap.size, 4, none⟩ = some (.bool false) ∧ u3.cell? ⟨W.heap.size, 5, none⟩ = some (.bool false)) ∧
           ∀ U, Kept (oneBlk (w.heap.size + 1 + 1)) u3 U → PrA TG TH w (.returned (.agg #[.slice ka prs.length kc, .slice ga gone.length gc, .slice na new.length nc, .bool false, .bool false, .bool false])) U) := hid (fun u3 h3 h4 => by
           have hC3 := hR.out.l2.ch.sorted h3 h4
           refine ⟨hs_keep hZ0.out hC3.low, hC3.cells, fun U hU => ?_⟩
           obtain ⟨r1, r2, r3⟩ := hC3.doneP hrbl hB.out.size hU
           exact ⟨_, _, _, rfl, ⟨by rw [eP.out]; exact r1, by rw [eG.out, ← hGd]; exact r2, by rw [eN.out]; exact r3⟩, (bl_step hB.out hC3.low).trans (hU.below (fun k e => by rw [show k = w.heap.size + 1 + 1 from e]; omega) (Nat.le_trans hB.out.size hC3.low.size))⟩)
          clear hR hI hGd hgl9 hrbl eP eN eG hZ0 hsh hl0
          generalize prs.length = pl at *
          generalize new.length = nl at *
          generalize hgl8 : gone.length = gl at *
          have hgl8 := hid hgl8
          go_wp2_with (go_at_call 50; refine GS.out.mono ?_; clear GS; rintro e u3 ⟨rfl, hO3, hg3⟩; obtain ⟨hb3, ⟨c0, c1, c2, c3, c4, c5⟩, hP⟩ := hend.out u3 hO3 hg3; obtain ⟨U1, U2, U3, U4, U5, U6, hU1, hU2, hU3, hU4, hU5, hU6, hU7, ⟨j0, f0, j1, f1, j2, f2, j3, f3, j4, f4, j5, f5⟩, ⟨v0, v1, v2, v3, v4, v5⟩⟩ := put6_walk hb3 (.slice ka pl kc) (.slice ga gl gc) (.slice na nl nc) (.bool false) (.bool false) (.bool false); have hP9 := hid (hP U6 (by rw [← hU7]; exact put6_kept ..)); clear hend hO3 hg3 hb3 hP hU7 y1)
          refine bodyPost_ret (v := .agg #[.slice ka pl kc, .slice ga gl gc, .slice na nl nc, .bool false, .bool false, .bool false]) (by simp [results, Tryz.results26, go_sem, v0, v1, v2, v3, v4, v5]) rfl ?_
          exact hP9.out
        · intro t a l c w1 cnt1 ht hlf hh hat hrg1 hltc hg1 hen
          have hR1 := hR.out.next hrg1 hg1
          obtain ⟨hne, v, h1, hv⟩ := hR1.l2.yes t hh
          have e : v = .slice a l c := by
           have h9 := h1 .nil
           rw [hat .nil] at h9
           injection h9 with h9
           exact h9.symm
          subst e
          have hln := hI.out.len
          have hll := lft_len TG kept t
          obtain ⟨g7, cap7, u7, hap, ⟨j1, f1⟩, τ', hR2⟩ := hR1.app hv hne (by rw [hTG.out] at hln hll; omega)
          have y1 := hR1.l2.ch.cells.2.1
          have hR2 := hid hR2
          have hI2 := hid (hI.out.step hlf)
          have hms := hid (show cnt1 < cnt from hltc)
          have hRm := hid hR.out.rg.left_eq
          clear hR1 hR hI hv hne h1 hln hll hat hh hrg1 hltc hlf hg1 ht
          generalize gone ++ lftL TG kept t = gone9 at *
          generalize gone.length + (lftL TG kept t).length = gl9 at *
          generalize gone.length = gl at *
          generalize strT t = S9 at *
          go_wp2_with (at_builtin; refine wp_run _ rfl _ _ _ rfl _ _ rfl rfl hap ?_; clear hap)
          go_roundw
          case rel => exact ⟨τ', _, cnt1, _, _, hR2, hI2⟩
          case measure => rw [hR2.out.rg.left_eq, hRm.out]; exact hms.out

end Go.Proofs.YtloaikjealcbmaaGreat
