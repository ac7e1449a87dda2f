/- Package diff: levels. slices.Equal, of numbers, texts, levels, cells. maps.Equal, of levels. same: of rules, productions, grammars. -/
import Derived.Test.YtloaikjealcbmaaGreatK22
import Derived.Test.YtloaikjealcbmaaGreatK36
import Derived.Test.YtloaikjealcbmaaGreatK14
import Derived.Test.YtloaikjealcbmaaGreatK7
import Derived.Test.YtloaikjealcbmaaGreatK15
import Derived.Test.YtloaikjealcbmaaGreatK16
import Derived.Deep.DrawnRows
import Derived.Laws.StructEq
namespace Go.Proofs.YtloaikjealcbmaaGreat
open Go.RowKit Go.Maps Go.Sort

theorem step_callE {P : Program} {ops : Array Oper} {o : Oper} {a : Act} {w : World} {K : Act → World → Prop} {Q : Exit → Act → World → Prop} {E : Prop} (hgd : o.guard = none) (f : FuncId) (args : Array Value)
 (hrun : (execOp a.eval o).run P w = .ok (.enter f args) w) {R : Ending → World → Prop} (hc : Calls P f args w R) (h : ∀ e w', R e w' → ∃ v, e = .returned v ∧ K (a.put o.dst v) w') :
 if Region.wanted o (yielded ops a.tmps) = true then Oper.wp P o a w K Q else E := by
 have hw : Region.wanted o (yielded ops a.tmps) = true := by simp [Region.wanted, hgd]
 rw [if_pos hw]
 unfold Oper.wp
 rw [hrun, Oper.upon_enter]
 refine hc.mono fun e w' hr => ?_
 obtain ⟨v, rfl, hk⟩ := h e w' hr
 exact hk
theorem below_drew {B : Nat} {a w : World} (h : Below B a w) : Below B a w.drew := h.drew
theorem from_drew {w w1 : World} (h : Below w.drew.heap.size w.drew w1) : Below w.heap.size w w1 := (Below.refl w.heap.size w).drew.trans (show Below w.heap.size w.drew w1 from h)
set_option maxRecDepth 20000 in
theorem HMp.putL {w : World} {mb n : Nat} {D : HDat} (h : HMp w mb n D) (t : Txt) (v : Value) (ht : t.length ≤ 1000000) (hn : n ≤ 1000000) :
 ∃ w', (Instr.mapUpdate 61 (.map (some mb)) (.string (strT t)) v).run Tryz.prog w = .ok () w' ∧ HMp w' mb (n + 1) (D.put (kyT t) (.held v)) ∧ w.grownBy w' (some mb) :=
 h.update keyS Tryz.underlying61 (by unfold maxLen; omega) (keyT t ht) rfl
/-- what a call of levels leaves -/
def LvA (g : Gm) (w : World) (e : Ending) (w' : World) : Prop := ∃ mb D, e = .returned (.map (some mb)) ∧ HMp w' mb 1000 D ∧ LvK g (g.terms + 1) D ∧ Below w.heap.size w w'
theorem LvA.mk {g : Gm} {w w' : World} {mb tm : Nat} {D : HDat} (ht : g.terms = tm) (h : HMp w' mb 1000 D) (hk : LvK g (tm + 1) D) (hb : Below w.heap.size w w') : LvA g w (.returned (.map (some mb))) w' := by
 subst ht
 exact ⟨mb, D, rfl, h, hk, hb⟩
set_option maxRecDepth 20000 in
set_option maxHeartbeats 16000000 in
theorem levsMapC (g : Gm) (rv nv lv pv : Value) (w : World) (hV : GmV w rv nv lv pv g) (hS : SndG g) (hBn : BndG g) :
 Calls Tryz.prog 28 #[gmA rv nv lv pv g.start] w (LvA g w) := by
 obtain ⟨la, lc, rfl⟩ := hV.levels.shape
 have hB1 := al' w (.cells #[rv, nv, .slice la g.levels.length lc, pv, .int .i64 g.start] 27)
 have k1 := heap_new w (.cells #[rv, nv, .slice la g.levels.length lc, pv, .int .i64 g.start] 27)
 obtain ⟨W, hW⟩ : ∃ x, w.alloc (.cells #[rv, nv, .slice la g.levels.length lc, pv, .int .i64 g.start] 27) = x := ⟨_, rfl⟩
 rw [hW] at hB1 k1
 have hVW := hV.keep hB1
 have hM0 : HMp (W.alloc (.map #[] 0)) W.heap.size 0 (.map []) := World.ownsMap_made W Tryz.prog 9 heldR
 have hBm := al' W (.map #[] 0)
 have hmm : ∀ u : World, (Instr.makeMap 61 none).run Tryz.prog u = .ok (.map (some u.heap.size)) (u.alloc (.map #[] 0)) := fun u => by
  simp [Instr.makeMap, Result.andThen]
  first | rfl | skip
 have tg := terms_leD g
 have hrl := hS.rules
 have hlv := hS.levels
 have hst := hid (fun k D (h : LvK g k D) h1 h2 => h.step h1 h2 hS.once)
 have hL : Hid (∀ u, Below W.heap.size W u → ∀ k, k < g.levels.length → ∃ b o, la = some ⟨b, o, none⟩ ∧ u.cell? ⟨b, o + k * 2, none⟩ = some (.int .i64 (g.levels.getD k (0, 0)).1) ∧ u.cell? ⟨b, o + k * 2 + 1, none⟩ = some (.int .i64 (g.levels.getD k (0, 0)).2)) := hid (fun u hu k hk => by
  obtain ⟨b, o, e, -, h0, h1⟩ := (hVW.keep hu).levels.at hk
  rw [List.getD_eq_getElem?_getD, List.getElem?_eq_getElem hk, Option.getD_some]
  exact ⟨b, o, e, h0, h1⟩)
 have hbx := hid (fun u (hu : Below W.heap.size W u) => cells5m (hs_keep k1 hu))
 have hN := hS.nm9
 have GN := hid (fun (j : Nat) (hj : j ≤ 1000) (u : World) (hu : Below W.heap.size W u) => gNameC g (j : Int) rv nv _ pv u (hVW.keep hu) (by omega) hBn (by have := hN (j : Int); omega))
 have hNl := hid (fun j : Nat => hN (j : Int))
 have hall : Hid (∀ k, k ≤ g.terms → k ≤ g.all) := hid (fun k h => by unfold Gm.all; omega)
 have hB := hid hB1
 rw [hlv] at GN hL hW hbx ⊢
 obtain ⟨tm, htm⟩ : ∃ n, Hid (g.terms = n) := ⟨_, hid rfl⟩
 rw [htm.out] at GN hL hW hbx hall tg ⊢
 have htm16 : tm ≤ 16 := by omega
 have hLS := hid (LvK.start g)
 have hM0 := hid hM0
 have hBm := hid hBm
 clear hV hVW hS hBn hB1 k1 hlv hrl tg hN
 generalize g.start = st at *
 generalize g.levels.getD = LG at *
 go_enter Tryz.func28, Tryz.ntmps28
 go_wp2
 clear hW
 go_loopw [4] (fun i wr => ∃ (k : Nat) (D : HDat), 1 ≤ k ∧ k ≤ tm + 1 ∧ i = .int .i64 (k : Int) ∧ Hid (HMp wr W.heap.size k D) ∧ Hid (LvK g k D) ∧ Hid (Below W.heap.size W wr)) (fun i _ => tm + 1 - (intOf i).toNat)
 case atStart => exact ⟨1, .map [], Nat.le_refl _, by omega, rfl, hid (hM0.out.mono (by omega)), hLS, hBm⟩
 case round =>
  obtain ⟨k, D, hk1, hk, rfl, hO, hK, hbl⟩ := hrel
  obtain ⟨z0, z1, z2, z3, z4⟩ := hbx.out wr hbl.out
  by_cases hlt : k < tm + 1
  · have hltz : (k : Int) < (tm : Int) + 1 := by omega
    obtain ⟨b, o, rfl, c0, c1⟩ := hL.out wr hbl.out k (by omega)
    have hst9 := hid (hst.out k D hK.out hk1 (hall.out k (by omega)))
    have hup : Hid (∀ u, HMp u W.heap.size k D → ∃ w2, (Instr.mapUpdate 61 (.map (some W.heap.size)) (.string (strT (g.name (k : Int)))) (.agg #[.int .i64 (LG k (0, 0)).1, .int .i64 (LG k (0, 0)).2])).run Tryz.prog u = .ok () w2 ∧ HMp w2 W.heap.size (k + 1) (D.put (kyT (g.name (k : Int))) (.held (lvV (LG k (0, 0))))) ∧ u.grownBy w2 (some W.heap.size)) := hid (fun u h9 => h9.putL _ _ (by have := hNl.out k; omega) (by omega))
    have GN9 := hid (fun u (hu : Below W.heap.size W u) => GN.out k (by omega) u hu)
    generalize strT (g.name (k : Int)) = S9 at *
    generalize D.put (kyT (g.name (k : Int))) (.held (lvV (LG k (0, 0)))) = D9 at *
    generalize LG k (0, 0) = l9 at *
    obtain ⟨l0, l1⟩ := l9
    dsimp only at c0 c1 hup
    have hkc : Hid (∀ w1, Below wr.heap.size wr w1 → (w1.cell? ⟨w.heap.size, 2, none⟩ = some (.slice (some ⟨b, o, none⟩) (tm + 1) lc) ∧ w1.cell? ⟨b, o + k * 2, none⟩ = some (.int .i64 l0) ∧ w1.cell? ⟨b, o + k * 2 + 1, none⟩ = some (.int .i64 l1))) := hid (fun w1 h1 => ⟨keep_cell h1 z2, keep_cell h1 c0, keep_cell h1 c1⟩)
    go_wp2_with fail
    go_region_law ((first
     | (refine step_callE (by rfl) 29 #[gmA rv nv (.slice (some ⟨b, o, none⟩) (tm + 1) lc) pv st, .int .i64 (k : Int)] (by go_simp) (GN9.out _ (below_drew hbl.out)) ?_; rintro e w1 ⟨rfl, hc⟩; refine ⟨_, rfl, ?_⟩; have hb1 := hid (from_drew hc); obtain ⟨x2, x3, x4⟩ := hkc.out w1 hb1.out; obtain ⟨w2, hrun, hO2, hg2⟩ := hup.out w1 (HMp.below hO.out hb1.out); have hO2 := hid hO2; have hg2 := hid hg2; clear hc)))
    all_goals
     go_wp2
     go_roundw
     case rel => exact ⟨k + 1, D9, by omega, by omega, by go_num, hO2, hst9, hid ((bl_step hbl.out hb1.out).grown hg2.out (Nat.le_trans hbl.out.size hb1.out.size) (fun j hj => by cases hj; exact Nat.le_refl _))⟩
     case measure => simp [intOf]; omega
  · have hltz : ¬ (k : Int) < (tm : Int) + 1 := by omega
    obtain rfl : k = tm + 1 := by omega
    have hz : ¬ ((tm : Int) + 1 < (tm : Int) + 1) := by omega
    go_wp2
    go_ret
    exact LvA.mk htm.out (hO.out.mono (by omega)) hK.out (bl_step hB.out hbl.out)

end Go.Proofs.YtloaikjealcbmaaGreat
namespace Go.Proofs.YtloaikjealcbmaaGreat
open Go.RowKit Go.Maps

theorem eqL_len {α : Type} [DecidableEq α] {l l' : List α} (h : l.length ≠ l'.length) : decide (l = l') = false := decide_eq_false fun e => h (by rw [e])
theorem eqL_no {α : Type} [DecidableEq α] {l l' : List α} {k : Nat} (h : k < l.length) (h' : k < l'.length) (hn : l[k] ≠ l'[k]) : decide (l = l') = false := decide_eq_false fun e => hn (by subst e; rfl)
theorem eqL_yes {α : Type} [DecidableEq α] {l l' : List α} (h : l.length = l'.length) (ha : ∀ j (h : j < l.length) (h' : j < l'.length), l[j] = l'[j]) : decide (l = l') = true := decide_eq_true (List.ext_getElem h ha)
theorem strT_beq (s t : Txt) : ((strT s).toList == (strT t).toList) = decide (s = t) := by
 rw [strT_toL, strT_toL]
 by_cases h : s = t
 · subst h; simp
 · simp [h]
set_option maxRecDepth 20000 in
theorem flds_levS : (Tryz.prog.fieldsOf 54).toList = [{ name := "Power", type := 3, offset := 0, embedded := false, tag := "", pkgPath := "", byteOffset := 0 }, { name := "Side", type := 3, offset := 1, embedded := false, tag := "", pkgPath := "", byteOffset := 8 }] := by kernel_rfl
set_option maxRecDepth 20000 in
theorem neqLevS (x y : Int × Int) (w : World) : (binOp .neq 54 (.agg #[.int .i64 x.1, .int .i64 x.2]) (.agg #[.int .i64 y.1, .int .i64 y.2])).run Tryz.prog w = .ok (.bool (!decide (x = y))) w := by
 obtain ⟨a, b⟩ := x
 obtain ⟨a', b'⟩ := y
 have p0 : ∀ x0 x1 : Int, (part 3 #[.int .i64 x0, .int .i64 x1] 0).run Tryz.prog w = .ok (.int .i64 x0) w := fun _ _ => by simp [part, isAgg, run_underlying Tryz.underlying3]
 have p1 : ∀ x0 x1 : Int, (part 3 #[.int .i64 x0, .int .i64 x1] 1).run Tryz.prog w = .ok (.int .i64 x1) w := fun _ _ => by simp [part, isAgg, run_underlying Tryz.underlying3]
 have hi := fun d x y => run_equalIn_int (P := Tryz.prog) w d 3 .i64 .i64 x y Tryz.underlying3
 rw [run_neq_struct, run_equalIn_struct w 9999 _ _ _ (by kernel_rfl) (by kernel_rfl), flds_levS]
 by_cases h0 : a = a'
 · by_cases h1 : b = b'
   · subst h0 h1; simp [Op.eqFields, p0, p1, hi]
   · subst h0; simp [Op.eqFields, p0, p1, hi, h1]
 · simp [Op.eqFields, p0, hi, h0]
set_option maxRecDepth 20000 in
theorem flds_cel : (Tryz.prog.fieldsOf 94).toList = [{ name := "Op", type := 3, offset := 0, embedded := false, tag := "", pkgPath := "", byteOffset := 0 }, { name := "Set", type := 92, offset := 1, embedded := false, tag := "", pkgPath := "", byteOffset := 8 }] := by kernel_rfl
theorem At5.keep2 {w w' : World} {b o : Nat} {c : Cel} (h : At5 w b o c) (hb : Below w.heap.size w w') (_ : b < w.heap.size) : At5 w' b o c := h.keep hb
abbrev celW (x : Cel) : Value := .agg #[.int .i64 x.op, .int .u64 (x.s.a : Int), .int .u64 (x.s.b : Int), .int .u64 (x.s.c : Int), .int .u64 (x.s.d : Int)]
set_option maxRecDepth 20000 in
theorem neqCel (x y : Cel) (w : World) : (binOp .neq 94 (celW x) (celW y)).run Tryz.prog w = .ok (.bool (!decide (x = y))) w := by
 obtain ⟨a, s, t, u, v⟩ := x
 obtain ⟨a', s', t', u', v'⟩ := y
 have p0 : ∀ (x0 : Int) (x1 x2 x3 x4 : Int), (part 3 #[.int .i64 x0, .int .u64 x1, .int .u64 x2, .int .u64 x3, .int .u64 x4] 0).run Tryz.prog w = .ok (.int .i64 x0) w := fun _ _ _ _ _ => by simp [part, isAgg, run_underlying Tryz.underlying3]
 have p1 : ∀ (x0 : Int) (x1 x2 x3 x4 : Nat), (part 92 #[.int .i64 x0, .int .u64 (x1 : Int), .int .u64 (x2 : Int), .int .u64 (x3 : Int), .int .u64 (x4 : Int)] 1).run Tryz.prog w = .ok (valB ⟨x1, x2, x3, x4⟩) w := fun _ _ _ _ _ => by kernel_rfl
 have hi := fun d x y => run_equalIn_int (P := Tryz.prog) w d 3 .i64 .i64 x y Tryz.underlying3
 have h4 := equal4 9997 s t u v s' t' u' v' w
 show (binOp .neq 94 (.agg #[.int .i64 a, .int .u64 (s : Int), .int .u64 (t : Int), .int .u64 (u : Int), .int .u64 (v : Int)]) (.agg #[.int .i64 a', .int .u64 (s' : Int), .int .u64 (t' : Int), .int .u64 (u' : Int), .int .u64 (v' : Int)])).run Tryz.prog w = _
 rw [run_neq_struct, run_equalIn_struct w 9999 _ _ _ (by kernel_rfl) (by kernel_rfl), flds_cel]
 by_cases h0 : a = a'
 · subst h0
   by_cases h1 : (⟨s, t, u, v⟩ : W4) = ⟨s', t', u', v'⟩
   · rw [decide_eq_true h1] at h4
     have h2 : ((⟨a, ⟨s, t, u, v⟩⟩ : Cel) = ⟨a, ⟨s', t', u', v'⟩⟩) := by rw [h1]
     rw [decide_eq_true h2]
     simp [Op.eqFields, p0, p1, hi, h4]
   · rw [decide_eq_false h1] at h4
     have h2 : ¬ ((⟨a, ⟨s, t, u, v⟩⟩ : Cel) = ⟨a, ⟨s', t', u', v'⟩⟩) := fun e => h1 (by injection e)
     rw [decide_eq_false h2]
     simp [Op.eqFields, p0, p1, hi, h4]
 · have h2 : ¬ ((⟨a, ⟨s, t, u, v⟩⟩ : Cel) = ⟨a', ⟨s', t', u', v'⟩⟩) := fun e => h0 (by injection e)
   rw [decide_eq_false h2]
   simp [Op.eqFields, p0, hi, h0]
set_option maxRecDepth 20000 in
set_option maxHeartbeats 4000000 in
theorem eqIntC (v v' : Value) (l l' : List Int) (w : World) (hA : Nums w v l) (hB : Nums w v' l') (hl : l.length ≤ 1000000) (_ : l'.length ≤ 1000000) :
 Calls Tryz.prog 41 #[v, v'] w fun e w' => e = .returned (.bool (decide (l = l'))) ∧ Below w.heap.size w w' := by
 obtain ⟨aa, ca, rfl, _, _, hA⟩ := hA
 obtain ⟨ab, cb, rfl, _, _, hB⟩ := hB
 by_cases hlen : l.length = l'.length
 · have hy := hid (fun h => eqL_yes hlen h)
   have hn := hid (fun k h h' hne => eqL_no (l := l) (l' := l') (k := k) h h' hne)
   have hlz : ((l.length : Int) != (l'.length : Int)) = false := by rw [hlen]; simp
   generalize decide (l = l') = R at *
   go_enter Tryz.func41, Tryz.ntmps41
   go_wp2
   clear hlz
   go_loopw [13] (fun i wr => ∃ k : Nat, k ≤ l.length ∧ i = .int .i64 (k : Int) ∧ Hid (∀ j (h : j < l.length) (h' : j < l'.length), j < k → l[j] = l'[j]) ∧ Hid (Below w.heap.size w wr)) (fun i _ => l.length - (intOf i).toNat)
   case atStart => exact ⟨0, Nat.zero_le _, rfl, hid (fun j _ _ h => absurd h (Nat.not_lt_zero _)), hid (Below.refl _ w)⟩
   case round =>
    obtain ⟨k, hk, rfl, hal, hbl⟩ := hrel
    by_cases hlt : k < l.length
    · have hltz : (k : Int) < (l.length : Int) := by omega
      have hlt2 : k < l'.length := by omega
      have hltz2 : (k : Int) < (l'.length : Int) := by omega
      obtain ⟨b1, o1, rfl, hb1, hc1⟩ := hA k hlt
      obtain ⟨b2, o2, rfl, hb2, hc2⟩ := hB k hlt2
      have hd1 := (hbl.out.cell hb1).trans hc1
      have hd2 := (hbl.out.cell hb2).trans hc2
      clear hc1 hc2
      clear hA hB
      by_cases he : l[k] = l'[k]
      · have hnx : Hid (∀ j (h : j < l.length) (h' : j < l'.length), j < k + 1 → l[j] = l'[j]) := hid (fun j h h' hj => by
         rcases Nat.lt_or_ge j k with h9 | h9
         · exact hal.out j h h' h9
         · obtain rfl : j = k := by omega
           exact he)
        clear hal hy hn
        generalize l[k] = x at *
        generalize l'[k] = y at *
        have hne : (x != y) = false := by rw [he]; simp
        clear he
        go_wp2_with fail
        go_quiet (fail)
        go_wp2
        go_roundw
        case rel => exact ⟨k + 1, by omega, by go_num, hnx, hid (by first | exact belowN hbl.out | exact belowN (belowN hbl.out))⟩
        case measure => simp [intOf]; omega
      · obtain rfl := hn.out k hlt hlt2 he
        clear hal hy hn
        generalize l[k] = x at *
        generalize l'[k] = y at *
        have hne : (x != y) = true := bne_iff_ne.2 he
        clear he
        go_wp2_with fail
        go_quiet (fail)
        go_wp2
        go_ret
        exact ⟨rfl, by first | exact belowN hbl.out | exact belowN (belowN hbl.out)⟩
    · have hltz : ¬ (k : Int) < (l.length : Int) := by omega
      obtain rfl := hy.out (fun j h h' => hal.out j h h' (by omega))
      clear hA hB hy hn hal
      go_wp2
      go_ret
      exact ⟨rfl, hbl.out⟩
 · have hlz : ((l.length : Int) != (l'.length : Int)) = true := bne_iff_ne.2 (by omega)
   obtain h9 := eqL_len (l := l) (l' := l') hlen
   rw [h9]
   clear hA hB h9 hlen
   go_enter Tryz.func41, Tryz.ntmps41
   go_wp2
   go_ret
   exact ⟨rfl, Below.refl _ _⟩
set_option maxRecDepth 20000 in
set_option maxHeartbeats 4000000 in
theorem eqStrC (v v' : Value) (l l' : List Txt) (w : World) (hA : Lst 1 TxtAt w v l) (hB : Lst 1 TxtAt w v' l') (hl : l.length ≤ 1000000) (_ : l'.length ≤ 1000000) :
 Calls Tryz.prog 19 #[v, v'] w fun e w' => e = .returned (.bool (decide (l = l'))) ∧ Below w.heap.size w w' := by
 obtain ⟨aa, ca, rfl, _, _, hA⟩ := hA
 obtain ⟨ab, cb, rfl, _, _, hB⟩ := hB
 by_cases hlen : l.length = l'.length
 · have hy := hid (fun h => eqL_yes hlen h)
   have hn := hid (fun k h h' hne => eqL_no (l := l) (l' := l') (k := k) h h' hne)
   have hlz : ((l.length : Int) != (l'.length : Int)) = false := by rw [hlen]; simp
   generalize decide (l = l') = R at *
   go_enter Tryz.func19, Tryz.ntmps19
   go_wp2
   clear hlz
   go_loopw [13] (fun i wr => ∃ k : Nat, k ≤ l.length ∧ i = .int .i64 (k : Int) ∧ Hid (∀ j (h : j < l.length) (h' : j < l'.length), j < k → l[j] = l'[j]) ∧ Hid (Below w.heap.size w wr)) (fun i _ => l.length - (intOf i).toNat)
   case atStart => exact ⟨0, Nat.zero_le _, rfl, hid (fun j _ _ h => absurd h (Nat.not_lt_zero _)), hid (Below.refl _ w)⟩
   case round =>
    obtain ⟨k, hk, rfl, hal, hbl⟩ := hrel
    by_cases hlt : k < l.length
    · have hltz : (k : Int) < (l.length : Int) := by omega
      have hlt2 : k < l'.length := by omega
      have hltz2 : (k : Int) < (l'.length : Int) := by omega
      obtain ⟨b1, o1, rfl, hb1, hc1⟩ := hA k hlt
      obtain ⟨b2, o2, rfl, hb2, hc2⟩ := hB k hlt2
      have hc1 : w.cell? ⟨b1, o1 + k * 1, none⟩ = some (.string (strT l[k])) := hc1
      have hc2 : w.cell? ⟨b2, o2 + k * 1, none⟩ = some (.string (strT l'[k])) := hc2
      rw [Nat.mul_one] at hc1 hc2
      have hd1 := (hbl.out.cell hb1).trans hc1
      have hd2 := (hbl.out.cell hb2).trans hc2
      clear hc1 hc2
      clear hA hB
      by_cases he : l[k] = l'[k]
      · have hnx : Hid (∀ j (h : j < l.length) (h' : j < l'.length), j < k + 1 → l[j] = l'[j]) := hid (fun j h h' hj => by
         rcases Nat.lt_or_ge j k with h9 | h9
         · exact hal.out j h h' h9
         · obtain rfl : j = k := by omega
           exact he)
        clear hal hy hn
        generalize l[k] = x at *
        generalize l'[k] = y at *
        have hne : ((strT x).toList == (strT y).toList) = true := by rw [strT_beq]; exact decide_eq_true he
        clear he
        generalize strT x = x at *
        generalize strT y = y at *
        go_wp2_with fail
        go_quiet (fail)
        go_wp2
        go_roundw
        case rel => exact ⟨k + 1, by omega, by go_num, hnx, hid (by first | exact belowN hbl.out | exact belowN (belowN hbl.out))⟩
        case measure => simp [intOf]; omega
      · obtain rfl := hn.out k hlt hlt2 he
        clear hal hy hn
        generalize l[k] = x at *
        generalize l'[k] = y at *
        have hne : ((strT x).toList == (strT y).toList) = false := by rw [strT_beq]; exact decide_eq_false he
        clear he
        generalize strT x = x at *
        generalize strT y = y at *
        go_wp2_with fail
        go_quiet (fail)
        go_wp2
        go_ret
        exact ⟨rfl, by first | exact belowN hbl.out | exact belowN (belowN hbl.out)⟩
    · have hltz : ¬ (k : Int) < (l.length : Int) := by omega
      obtain rfl := hy.out (fun j h h' => hal.out j h h' (by omega))
      clear hA hB hy hn hal
      go_wp2
      go_ret
      exact ⟨rfl, hbl.out⟩
 · have hlz : ((l.length : Int) != (l'.length : Int)) = true := bne_iff_ne.2 (by omega)
   obtain h9 := eqL_len (l := l) (l' := l') hlen
   rw [h9]
   clear hA hB h9 hlen
   go_enter Tryz.func19, Tryz.ntmps19
   go_wp2
   go_ret
   exact ⟨rfl, Below.refl _ _⟩
set_option maxRecDepth 20000 in
set_option maxHeartbeats 4000000 in
theorem eqLevC (v v' : Value) (l l' : List (Int × Int)) (w : World) (hA : Lst 2 LevAt w v l) (hB : Lst 2 LevAt w v' l') (hl : l.length ≤ 1000000) (_ : l'.length ≤ 1000000) :
 Calls Tryz.prog 20 #[v, v'] w fun e w' => e = .returned (.bool (decide (l = l'))) ∧ Below w.heap.size w w' := by
 obtain ⟨aa, ca, rfl, _, _, hA⟩ := hA
 obtain ⟨ab, cb, rfl, _, _, hB⟩ := hB
 by_cases hlen : l.length = l'.length
 · have hy := hid (fun h => eqL_yes hlen h)
   have hn := hid (fun k h h' hne => eqL_no (l := l) (l' := l') (k := k) h h' hne)
   have hlz : ((l.length : Int) != (l'.length : Int)) = false := by rw [hlen]; simp
   generalize decide (l = l') = R at *
   go_enter Tryz.func20, Tryz.ntmps20
   go_wp2
   clear hlz
   go_loopw [13] (fun i wr => ∃ k : Nat, k ≤ l.length ∧ i = .int .i64 (k : Int) ∧ Hid (∀ j (h : j < l.length) (h' : j < l'.length), j < k → l[j] = l'[j]) ∧ Hid (Below w.heap.size w wr)) (fun i _ => l.length - (intOf i).toNat)
   case atStart => exact ⟨0, Nat.zero_le _, rfl, hid (fun j _ _ h => absurd h (Nat.not_lt_zero _)), hid (Below.refl _ w)⟩
   case round =>
    obtain ⟨k, hk, rfl, hal, hbl⟩ := hrel
    by_cases hlt : k < l.length
    · have hltz : (k : Int) < (l.length : Int) := by omega
      have hlt2 : k < l'.length := by omega
      have hltz2 : (k : Int) < (l'.length : Int) := by omega
      obtain ⟨b1, o1, rfl, hb1, hc1⟩ := hA k hlt
      obtain ⟨b2, o2, rfl, hb2, hc2⟩ := hB k hlt2
      have hd1 := (hbl.out.cell hb1).trans hc1.1
      have he1 := (hbl.out.cell hb1).trans hc1.2
      have hd2 := (hbl.out.cell hb2).trans hc2.1
      have he2 := (hbl.out.cell hb2).trans hc2.2
      clear hc1 hc2
      clear hA hB
      by_cases he : l[k] = l'[k]
      · have hnx : Hid (∀ j (h : j < l.length) (h' : j < l'.length), j < k + 1 → l[j] = l'[j]) := hid (fun j h h' hj => by
         rcases Nat.lt_or_ge j k with h9 | h9
         · exact hal.out j h h' h9
         · obtain rfl : j = k := by omega
           exact he)
        clear hal hy hn
        have hne := fun u => neqLevS l[k] l'[k] u
        rw [decide_eq_true he] at hne
        generalize l[k] = x at *
        generalize l'[k] = y at *
        clear he
        go_wp2_with fail
        go_quiet (fail)
        go_wp2
        go_roundw
        case rel => exact ⟨k + 1, by omega, by go_num, hnx, hid (by first | exact belowN hbl.out | exact belowN (belowN hbl.out))⟩
        case measure => simp [intOf]; omega
      · obtain rfl := hn.out k hlt hlt2 he
        clear hal hy hn
        have hne := fun u => neqLevS l[k] l'[k] u
        rw [decide_eq_false he] at hne
        generalize l[k] = x at *
        generalize l'[k] = y at *
        clear he
        go_wp2_with fail
        go_quiet (fail)
        go_wp2
        go_ret
        exact ⟨rfl, by first | exact belowN hbl.out | exact belowN (belowN hbl.out)⟩
    · have hltz : ¬ (k : Int) < (l.length : Int) := by omega
      obtain rfl := hy.out (fun j h h' => hal.out j h h' (by omega))
      clear hA hB hy hn hal
      go_wp2
      go_ret
      exact ⟨rfl, hbl.out⟩
 · have hlz : ((l.length : Int) != (l'.length : Int)) = true := bne_iff_ne.2 (by omega)
   obtain h9 := eqL_len (l := l) (l' := l') hlen
   rw [h9]
   clear hA hB h9 hlen
   go_enter Tryz.func20, Tryz.ntmps20
   go_wp2
   go_ret
   exact ⟨rfl, Below.refl _ _⟩
set_option maxRecDepth 20000 in
set_option maxHeartbeats 4000000 in
theorem eqCelC (v v' : Value) (l l' : List Cel) (w : World) (hA : Cels w v l) (hB : Cels w v' l') (hl : l.length ≤ 1000000) (_ : l'.length ≤ 1000000) :
 Calls Tryz.prog 61 #[v, v'] w fun e w' => e = .returned (.bool (decide (l = l'))) ∧ Below w.heap.size w w' := by
 obtain ⟨aa, ca, rfl, _, _, _, hA⟩ := hA
 obtain ⟨ab, cb, rfl, _, _, _, hB⟩ := hB
 by_cases hlen : l.length = l'.length
 · have hy := hid (fun h => eqL_yes hlen h)
   have hn := hid (fun k h h' hne => eqL_no (l := l) (l' := l') (k := k) h h' hne)
   have hlz : ((l.length : Int) != (l'.length : Int)) = false := by rw [hlen]; simp
   generalize decide (l = l') = R at *
   go_enter Tryz.func61, Tryz.ntmps61
   go_wp2
   clear hlz
   go_loopw [13] (fun i wr => ∃ k : Nat, k ≤ l.length ∧ i = .int .i64 (k : Int) ∧ Hid (∀ j (h : j < l.length) (h' : j < l'.length), j < k → l[j] = l'[j]) ∧ Hid (Below w.heap.size w wr)) (fun i _ => l.length - (intOf i).toNat)
   case atStart => exact ⟨0, Nat.zero_le _, rfl, hid (fun j _ _ h => absurd h (Nat.not_lt_zero _)), hid (Below.refl _ w)⟩
   case round =>
    obtain ⟨k, hk, rfl, hal, hbl⟩ := hrel
    by_cases hlt : k < l.length
    · have hltz : (k : Int) < (l.length : Int) := by omega
      have hlt2 : k < l'.length := by omega
      have hltz2 : (k : Int) < (l'.length : Int) := by omega
      obtain ⟨b1, o1, rfl, hb1, hc1⟩ := hA k hlt
      obtain ⟨b2, o2, rfl, hb2, hc2⟩ := hB k hlt2
      have hc1 := At5.keep2 hc1 hbl.out hb1
      have hc2 := At5.keep2 hc2 hbl.out hb2
      obtain ⟨x0, x1, x2, x3, x4⟩ := hc1
      obtain ⟨y0, y1, y2, y3, y4⟩ := hc2
      clear hA hB
      by_cases he : l[k] = l'[k]
      · have hnx : Hid (∀ j (h : j < l.length) (h' : j < l'.length), j < k + 1 → l[j] = l'[j]) := hid (fun j h h' hj => by
         rcases Nat.lt_or_ge j k with h9 | h9
         · exact hal.out j h h' h9
         · obtain rfl : j = k := by omega
           exact he)
        clear hal hy hn
        have hne := fun u => neqCel l[k] l'[k] u
        rw [decide_eq_true he] at hne
        generalize l[k] = x at *
        generalize l'[k] = y at *
        clear he
        go_wp2_with fail
        go_quiet (fail)
        go_wp2
        go_roundw
        case rel => exact ⟨k + 1, by omega, by go_num, hnx, hid (by first | exact belowN hbl.out | exact belowN (belowN hbl.out))⟩
        case measure => simp [intOf]; omega
      · obtain rfl := hn.out k hlt hlt2 he
        clear hal hy hn
        have hne := fun u => neqCel l[k] l'[k] u
        rw [decide_eq_false he] at hne
        generalize l[k] = x at *
        generalize l'[k] = y at *
        clear he
        go_wp2_with fail
        go_quiet (fail)
        go_wp2
        go_ret
        exact ⟨rfl, by first | exact belowN hbl.out | exact belowN (belowN hbl.out)⟩
    · have hltz : ¬ (k : Int) < (l.length : Int) := by omega
      obtain rfl := hy.out (fun j h h' => hal.out j h h' (by omega))
      clear hA hB hy hn hal
      go_wp2
      go_ret
      exact ⟨rfl, hbl.out⟩
 · have hlz : ((l.length : Int) != (l'.length : Int)) = true := bne_iff_ne.2 (by omega)
   obtain h9 := eqL_len (l := l) (l' := l') hlen
   rw [h9]
   clear hA hB h9 hlen
   go_enter Tryz.func61, Tryz.ntmps61
   go_wp2
   go_ret
   exact ⟨rfl, Below.refl _ _⟩

end Go.Proofs.YtloaikjealcbmaaGreat
namespace Go.Proofs.YtloaikjealcbmaaGreat
open Go.RowKit Go.Maps Go.Sort

set_option maxRecDepth 20000 in
theorem keyM (t : Txt) (h : t.length ≤ maxLen) : keyOf Tryz.prog 9 (.string (strT t)) = some (kyT t) := WideMaps.keyOf_string_mk Tryz.underlying9 (by show t.toArray.size ≤ maxLen; rw [List.size_toArray]; exact h)
set_option maxRecDepth 20000 in
theorem zeroLv (w : World) : (zeroValue 54).run Tryz.prog w = .ok (lvV (0, 0)) w := by kernel_rfl
set_option maxRecDepth 20000 in
theorem HMp.lookYes {w : World} {mb n : Nat} {D : HDat} (h : HMp w mb n D) (t : Txt) (ht : t.length ≤ maxLen) (l : Int × Int) (hh : Maps.has D (kyT t) = true) (hat : ∀ z, D.atKey (kyT t) z = .held (lvV l)) :
 (Instr.lookup 61 (.map (some mb)) (.string (strT t)) true).run Tryz.prog w = .ok (.tuple #[lvV l, .bool true]) w := by
 obtain ⟨v, ps, hrun, hR⟩ := h.look_ok (string_keyed Tryz.underlying9) Tryz.underlying61 (zeroLv w) (zd := .held (lvV (0, 0))) (zp := []) rfl (keyM t ht)
 rw [hat] at hR
 rw [hrun, heldR_inv hR, hh]
set_option maxRecDepth 20000 in
theorem HMp.lookNo {w : World} {mb n : Nat} {D : HDat} (h : HMp w mb n D) (t : Txt) (ht : t.length ≤ maxLen) (hh : Maps.has D (kyT t) = false) :
 (Instr.lookup 61 (.map (some mb)) (.string (strT t)) true).run Tryz.prog w = .ok (.tuple #[lvV (0, 0), .bool false]) w := by
 obtain ⟨v, ps, hrun, hR⟩ := h.look_ok (string_keyed Tryz.underlying9) Tryz.underlying61 (zeroLv w) (zd := .held (lvV (0, 0))) (zp := []) rfl (keyM t ht)
 rw [atKey_of_not_has hh] at hR
 rw [hrun, heldR_inv hR, hh]
set_option maxRecDepth 20000 in
set_option maxHeartbeats 16000000 in
theorem mapsEqC (m1 m2 n1 n2 : Nat) (D1 D2 : HDat) (w : World) (h1 : HMp w m1 n1 D1) (h2 : HMp w m2 n2 D2)
 (s1 : ∀ t : Txt, Maps.has D1 (kyT t) = true → ∃ l : Int × Int, ∀ z, D1.atKey (kyT t) z = .held (lvV l)) (s2 : ∀ t : Txt, Maps.has D2 (kyT t) = true → ∃ l : Int × Int, ∀ z, D2.atKey (kyT t) z = .held (lvV l)) :
 Calls Tryz.prog 27 #[.map (some m1), .map (some m2)] w fun e w' => e = .returned (.bool (lvEq D1 D2)) ∧ Below w.heap.size w w' := by
 have l1 := fun ty => h1.len Tryz.underlying61 ty
 have l2 := fun ty => h2.len Tryz.underlying61 ty
 obtain ⟨R, hR⟩ : ∃ R, Hid (lvEq D1 D2 = R) := ⟨_, hid rfl⟩
 rw [hR.out]
 by_cases hsz : Maps.size D1 = Maps.size D2
 · have hyes : Hid ((∀ t : Txt, Maps.has D1 (kyT t) = true → Maps.has D2 (kyT t) = true ∧ D1.atKey (kyT t) .nil = D2.atKey (kyT t) .nil) → R = true) := hid (fun h => by rw [← hR.out]; exact lvEq_yes ⟨hsz, h⟩)
   have hno : Hid (∀ t : Txt, Maps.has D1 (kyT t) = true → ¬ (Maps.has D2 (kyT t) = true ∧ D1.atKey (kyT t) .nil = D2.atKey (kyT t) .nil) → R = false) := hid (fun t ht h => by rw [← hR.out]; exact lvEq_no (fun h9 => h (h9.2 t ht)))
   clear hR
   have hszz : ((Maps.size D1 : Int) != (Maps.size D2 : Int)) = false := by rw [hsz]; simp
   have hH1 := hid h1
   have hH2 := hid h2
   have hs1 := hid s1
   have hs2 := hid s2
   clear h2 s1 s2
   generalize Maps.size D2 = z2 at *
   clear hsz
   go_enter Tryz.func27, Tryz.ntmps27
   go_wp2_with (first
    | (at_range; refine wpList_range_own _ rfl _ 61 rfl 9 54 (string_keyed Tryz.underlying9) Tryz.underlying61 heldR m1 n1 _ rfl h1 ?_; intro w0 hrg0 hg0 hs0)
    | go_in)
   go_frame
   clear l1 l2 hszz h1
   go_loopw [18] (fun _ wr => ∃ (left : Lit → Bool) (cnt : Nat), Hid (wr.ranges Tryz.prog 9 heldR m1 w.heap.size n1 D1 left cnt) ∧ Hid (HMp wr m2 n2 D2) ∧ Hid (Below w.heap.size w wr) ∧ Hid (∀ t : Txt, Maps.has D1 (kyT t) = true → left (kyT t) = false → Maps.has D2 (kyT t) = true ∧ D1.atKey (kyT t) .nil = D2.atKey (kyT t) .nil))
    (fun _ wr => wr.rangeLeft m1 w.heap.size)
   case atStart => exact ⟨_, _, hid hrg0, hid (hH2.out.kept hg0 (by simp)), hid ((Below.refl _ w).grown hg0 (Nat.le_refl _) (fun j hj => by cases hj)), hid (fun t h9 h8 => by rw [h9] at h8; cases h8)⟩
   case round =>
    obtain ⟨left, cnt, hrg, h2r, hbl, hG⟩ := hrel
    go_wp2_with (first
     | (at_next; refine wpList_next_held lvV _ rfl _ rfl m1 w.heap.size n1 D1 left cnt rfl hrg.out hs1.out ?_ ?_)
     | go_in)
    · intro hl0
      obtain rfl := hyes.out (fun t ht => hG.out t ht (hl0 _))
      clear hl0
      go_wp2
      go_ret
      exact ⟨rfl, hbl.out⟩
    · intro t a0 a1 w1 cnt1 ht hlf hh hat hrg1 hlt hg1 hen
      try dsimp only [lvV] at hen ⊢
      have hb1 : Below w.heap.size w w1 := hbl.out.grown hg1 hbl.out.size (fun j hj => by cases hj; exact Nat.le_refl _)
      have h2w : HMp w1 m2 n2 D2 := h2r.out.kept hg1 (fun e => by have := Option.some.inj e; have := hH2.out.lt; omega)
      obtain ⟨V1, hV1⟩ : ∃ x, w1.alloc (.cells #[.int .i64 a0, .int .i64 a1] 54) = x := ⟨_, rfl⟩
      have hB1 : Below w1.heap.size w1 V1 := by rw [← hV1]; exact al' w1 _
      have hk1 : V1.heap[w1.heap.size]? = some (.cells #[.int .i64 a0, .int .i64 a1] 54) := by rw [← hV1]; exact heap_new w1 _
      have hr1 : V1.ranges Tryz.prog 9 heldR m1 w.heap.size n1 D1 (fun z => left z && !z.sameKey (kyT t)) cnt1 := by rw [← hV1]; exact hrg1.alloc _
      have h2V := h2w.below hB1
      have hat := hid hat
      have hltH := hid hlt
      have hrgH := hid hrg
      clear hlt
      cases hh2 : Maps.has D2 (kyT t)
      · obtain rfl := hno.out t hh (fun h9 => by rw [hh2] at h9; cases h9.1)
        have hlk := h2V.lookNo t ht hh2
        dsimp only [lvV] at hlk
        have hB2 := al' V1 (.cells #[.int .i64 0, .int .i64 0] 54)
        have hfin := hid (bl_step (bl_step hb1 hB1) hB2)
        clear hr1 hrg1 h2V h2w hB1 hB2 hb1 hh hh2 hyes hno
        generalize strT t = S9 at *
        go_wp2
        go_ret
        exact ⟨rfl, hfin.out⟩
      · obtain ⟨⟨b0, b1⟩, hat2⟩ := hs2.out t hh2
        have hlk := h2V.lookYes t ht _ hh2 hat2
        obtain ⟨V2, hV2⟩ : ∃ x, V1.alloc (.cells #[.int .i64 b0, .int .i64 b1] 54) = x := ⟨_, rfl⟩
        have hB2 : Below V1.heap.size V1 V2 := by rw [← hV2]; exact al' V1 _
        have hk2 : V2.heap[V1.heap.size]? = some (.cells #[.int .i64 b0, .int .i64 b1] 54) := by rw [← hV2]; exact heap_new V1 _
        have hr2 := hid (show V2.ranges Tryz.prog 9 heldR m1 w.heap.size n1 D1 (fun z => left z && !z.sameKey (kyT t)) cnt1 by rw [← hV2]; exact hr1.alloc _)
        have h2V2 := hid (h2V.below hB2)
        have hfin := hid (bl_step (bl_step hb1 hB1) hB2)
        dsimp only [lvV] at hlk
        have hk1 := hs_keep hk1 hB2
        obtain ⟨p0, p1, -, -⟩ := cells2m hk1
        obtain ⟨q0, q1, -, -⟩ := cells2m hk2
        clear hk1 hk2
        by_cases he : (a0, a1) = (b0, b1)
        · have hnx : Hid (∀ s : Txt, Maps.has D1 (kyT s) = true → (left (kyT s) && !(kyT s).sameKey (kyT t)) = false → Maps.has D2 (kyT s) = true ∧ D1.atKey (kyT s) .nil = D2.atKey (kyT s) .nil) := hid (fun s h9 h8 => by
           by_cases e : s = t
           · subst e
             exact ⟨hh2, by rw [hat.out .nil, hat2 .nil, he]⟩
           · rw [sameKy, decide_eq_false e] at h8
             exact hG.out s h9 (by simpa using h8))
          obtain ⟨rfl, rfl⟩ : a0 = b0 ∧ a1 = b1 := by injection he with h8 h9; exact ⟨h8, h9⟩
          clear hr1 hrg1 h2V h2w hB1 hB2 hb1 hh hh2 hyes hno hat2 he hG hg1
          generalize strT t = S9 at *
          go_wp2
          go_roundw
          case rel => exact ⟨_, cnt1, hr2, h2V2, hfin, hnx⟩
          case measure => rw [hr2.out.left_eq, hrgH.out.out.left_eq]; exact hltH.out
        · obtain rfl := hno.out t hh (fun h9 => he (by
           have h8 := h9.2
           rw [hat.out .nil, hat2 .nil] at h8
           injection h8 with h8
           exact lvV_inj h8))
          clear hr1 hrg1 h2V h2w hB1 hB2 hb1 hh hh2 hyes hno hat2 hG hg1
          generalize strT t = S9 at *
          have he := hid he
          go_wp2
          all_goals first
           | (exact absurd (Prod.ext (by assumption) (by assumption)) he.out)
           | (go_ret; exact ⟨rfl, hfin.out⟩)
 · have hRf : R = false := by rw [← hR.out]; exact lvEq_no (fun h => hsz h.1)
   subst hRf
   have hszz : ((Maps.size D1 : Int) != (Maps.size D2 : Int)) = true := bne_iff_ne.2 (by omega)
   clear hR s1 s2 h1 h2
   generalize Maps.size D1 = z1 at *
   generalize Maps.size D2 = z2 at *
   clear hsz
   go_enter Tryz.func27, Tryz.ntmps27
   go_wp2
   go_ret
   exact ⟨rfl, Below.refl _ _⟩

end Go.Proofs.YtloaikjealcbmaaGreat
namespace Go.Proofs.YtloaikjealcbmaaGreat
open Go.RowKit Go.Maps

noncomputable instance : DecidableEq Rl := fun _ _ => Classical.propDecidable _
noncomputable instance : DecidableEq Pd := fun _ _ => Classical.propDecidable _
noncomputable instance : DecidableEq Gm := fun _ _ => Classical.propDecidable _
theorem shapeC {w : World} {v : Value} {l : List Cel} (h : Cels w v l) : ∃ a c, v = .slice a l.length c := by obtain ⟨a, c, e, _⟩ := h; exact ⟨a, c, e⟩
theorem shapeN {w : World} {v : Value} {l : List Int} (h : Nums w v l) : ∃ a c, v = .slice a l.length c := by obtain ⟨a, c, e, _⟩ := h; exact ⟨a, c, e⟩
theorem cells3q {w : World} {b t : Nat} {x0 x1 x2 : Value} (h : w.heap[b]? = some (.cells #[x0, x1, x2] t (0, 0))) : w.cell? ⟨b, 0, none⟩ = some x0 ∧ w.cell? ⟨b, 1, none⟩ = some x1 ∧ w.cell? ⟨b, 2, none⟩ = some x2 := ⟨blk_cell h rfl, blk_cell h rfl, blk_cell h rfl⟩
set_option maxRecDepth 20000 in
set_option maxHeartbeats 4000000 in
theorem sameRuleC (r r' : Rl) (v v' : Value) (w : World) (h : Cels w v r.re) (h' : Cels w v' r'.re) (hl : r.re.length ≤ 1000000) (hl' : r'.re.length ≤ 1000000) :
 Calls Tryz.prog 40 #[.agg #[.string (strT r.name), v, .bool r.skip], .agg #[.string (strT r'.name), v', .bool r'.skip]] w fun e w' => e = .returned (.bool (decide (r = r'))) ∧ Below w.heap.size w w' := by
 obtain ⟨a, c, rfl⟩ := shapeC h
 obtain ⟨a', c', rfl⟩ := shapeC h'
 have hB1 := al' w (.cells #[.string (strT r.name), .slice a r.re.length c, .bool r.skip] 48)
 have hB2 := al' (w.alloc (.cells #[.string (strT r.name), .slice a r.re.length c, .bool r.skip] 48)) (.cells #[.string (strT r'.name), .slice a' r'.re.length c', .bool r'.skip] 48)
 have k1 := hs_keep (heap_new w (.cells #[.string (strT r.name), .slice a r.re.length c, .bool r.skip] 48)) hB2
 have k2 := heap_new (w.alloc (.cells #[.string (strT r.name), .slice a r.re.length c, .bool r.skip] 48)) (.cells #[.string (strT r'.name), .slice a' r'.re.length c', .bool r'.skip] 48)
 rw [World.size_alloc] at k2
 obtain ⟨x0, x1, x2⟩ := cells3q k1
 obtain ⟨y0, y1, y2⟩ := cells3q k2
 have hB := hid (bl_step hB1 hB2)
 have G := hid (eqCelC _ _ r.re r'.re _ (h.keep hB.out) (h'.keep hB.out) hl hl')
 clear h h' hB1 hB2 k1 k2 hl hl'
 obtain ⟨n1, q1, s1⟩ := r
 obtain ⟨n2, q2, s2⟩ := r'
 dsimp only at *
 by_cases e1 : n1 = n2
 · have e1z : ((strT n1).toList == (strT n2).toList) = true := by rw [strT_beq]; exact decide_eq_true e1
   by_cases e2 : s1 = s2
   · have e2z : (s1 == s2) = true := by rw [e2]; simp
     have hR : decide ((⟨n1, q1, s1⟩ : Rl) = ⟨n2, q2, s2⟩) = decide (q1 = q2) := by
      subst e1 e2
      by_cases e3 : q1 = q2
      · subst e3; simp
      · rw [decide_eq_false e3]; exact decide_eq_false (fun e => e3 (by injection e))
     rw [hR]
     clear hR e1z e2z
     subst e1 e2
     generalize decide (q1 = q2) = R at *
     skip
     go_enter Tryz.func40, Tryz.ntmps40
     go_wp2_with (go_at_call 61; refine G.out.mono ?_; clear G; rintro e w3 ⟨rfl, hc⟩; have hc := hid hc)
     go_ret
     exact ⟨by first | rfl | simp, bl_step hB.out hc.out⟩
   · have e2z : (s1 == s2) = false := by simpa using e2
     have hR : decide ((⟨n1, q1, s1⟩ : Rl) = ⟨n2, q2, s2⟩) = false := decide_eq_false (fun e => e2 (by injection e))
     rw [hR]
     clear hR G e1z e2
     subst e1
     skip
     go_enter Tryz.func40, Tryz.ntmps40
     go_wp2
     go_ret
     exact ⟨by first | rfl | simp, hB.out⟩
 · have e1z : ((strT n1).toList == (strT n2).toList) = false := by rw [strT_beq]; exact decide_eq_false e1
   have hR : decide ((⟨n1, q1, s1⟩ : Rl) = ⟨n2, q2, s2⟩) = false := decide_eq_false (fun e => e1 (by injection e))
   rw [hR]
   clear hR G e1
   skip
   go_enter Tryz.func40, Tryz.ntmps40
   go_wp2
   go_ret
   exact ⟨by first | rfl | simp, hB.out⟩
set_option maxRecDepth 20000 in
set_option maxHeartbeats 4000000 in
theorem sameProdC (r r' : Pd) (v v' : Value) (w : World) (h : Nums w v r.right) (h' : Nums w v' r'.right) (hl : r.right.length ≤ 1000000) (hl' : r'.right.length ≤ 1000000) :
 Calls Tryz.prog 22 #[.agg #[.int .i64 r.left, v, .int .i64 r.prec], .agg #[.int .i64 r'.left, v', .int .i64 r'.prec]] w fun e w' => e = .returned (.bool (decide (r = r'))) ∧ Below w.heap.size w w' := by
 obtain ⟨a, c, rfl⟩ := shapeN h
 obtain ⟨a', c', rfl⟩ := shapeN h'
 have hB1 := al' w (.cells #[.int .i64 r.left, .slice a r.right.length c, .int .i64 r.prec] 50)
 have hB2 := al' (w.alloc (.cells #[.int .i64 r.left, .slice a r.right.length c, .int .i64 r.prec] 50)) (.cells #[.int .i64 r'.left, .slice a' r'.right.length c', .int .i64 r'.prec] 50)
 have k1 := hs_keep (heap_new w (.cells #[.int .i64 r.left, .slice a r.right.length c, .int .i64 r.prec] 50)) hB2
 have k2 := heap_new (w.alloc (.cells #[.int .i64 r.left, .slice a r.right.length c, .int .i64 r.prec] 50)) (.cells #[.int .i64 r'.left, .slice a' r'.right.length c', .int .i64 r'.prec] 50)
 rw [World.size_alloc] at k2
 obtain ⟨x0, x1, x2⟩ := cells3q k1
 obtain ⟨y0, y1, y2⟩ := cells3q k2
 have hB := hid (bl_step hB1 hB2)
 have G := hid (eqIntC _ _ r.right r'.right _ (h.keep hB.out) (h'.keep hB.out) hl hl')
 clear h h' hB1 hB2 k1 k2 hl hl'
 obtain ⟨n1, q1, s1⟩ := r
 obtain ⟨n2, q2, s2⟩ := r'
 dsimp only at *
 by_cases e1 : n1 = n2
 · have e1z : (n1 == n2) = true := by rw [e1]; simp
   by_cases e2 : s1 = s2
   · have e2z : (s1 == s2) = true := by rw [e2]; simp
     have hR : decide ((⟨n1, q1, s1⟩ : Pd) = ⟨n2, q2, s2⟩) = decide (q1 = q2) := by
      subst e1 e2
      by_cases e3 : q1 = q2
      · subst e3; simp
      · rw [decide_eq_false e3]; exact decide_eq_false (fun e => e3 (by injection e))
     rw [hR]
     clear hR e1z e2z
     subst e1 e2
     generalize decide (q1 = q2) = R at *
     skip
     go_enter Tryz.func22, Tryz.ntmps22
     go_wp2_with (go_at_call 41; refine G.out.mono ?_; clear G; rintro e w3 ⟨rfl, hc⟩; have hc := hid hc)
     go_ret
     exact ⟨by first | rfl | simp, bl_step hB.out hc.out⟩
   · have e2z : (s1 == s2) = false := by simpa using e2
     have hR : decide ((⟨n1, q1, s1⟩ : Pd) = ⟨n2, q2, s2⟩) = false := decide_eq_false (fun e => e2 (by injection e))
     rw [hR]
     clear hR G e1z e2
     subst e1
     skip
     go_enter Tryz.func22, Tryz.ntmps22
     go_wp2
     go_ret
     exact ⟨by first | rfl | simp, hB.out⟩
 · have e1z : (n1 == n2) = false := by simpa using e1
   have hR : decide ((⟨n1, q1, s1⟩ : Pd) = ⟨n2, q2, s2⟩) = false := decide_eq_false (fun e => e1 (by injection e))
   rw [hR]
   clear hR G e1
   skip
   go_enter Tryz.func22, Tryz.ntmps22
   go_wp2
   go_ret
   exact ⟨by first | rfl | simp, hB.out⟩
set_option maxRecDepth 20000 in
set_option maxHeartbeats 4000000 in
theorem eqRulesC (v v' : Value) (l l' : List Rl) (w : World) (hA : Lst 3 RuleAt w v l) (hB : Lst 3 RuleAt w v' l') (hl : l.length ≤ 1000000) (_ : l'.length ≤ 1000000) (hr : ∀ x ∈ l, x.re.length ≤ 1000000) (hr' : ∀ x ∈ l', x.re.length ≤ 1000000) :
 Calls Tryz.prog 39 #[v, v', .func (.func 40) #[] #[]] w fun e w' => e = .returned (.bool (decide (l = l'))) ∧ Below w.heap.size w w' := by
 obtain ⟨aa, ca, rfl, _, _, hA⟩ := hA
 obtain ⟨ab, cb, rfl, _, _, hB⟩ := hB
 by_cases hlen : l.length = l'.length
 · have hy := hid (fun h => eqL_yes hlen h)
   have hn := hid (fun k h h' hne => eqL_no (l := l) (l' := l') (k := k) h h' hne)
   have hlz : ((l.length : Int) != (l'.length : Int)) = false := by rw [hlen]; simp
   have hlenH := hid hlen
   clear hlen
   have hA := hid hA
   have hB := hid hB
   generalize decide (l = l') = R at *
   go_enter Tryz.func39, Tryz.ntmps39
   go_wp2
   clear hlz
   go_loopw [17] (fun i wr => ∃ k : Nat, k ≤ l.length ∧ i = .int .i64 (k : Int) ∧ Hid (∀ j (h : j < l.length) (h' : j < l'.length), j < k → l[j] = l'[j]) ∧ Hid (Below w.heap.size w wr)) (fun i _ => l.length - (intOf i).toNat)
   case atStart => exact ⟨0, Nat.zero_le _, rfl, hid (fun j _ _ h => absurd h (Nat.not_lt_zero _)), hid (Below.refl _ w)⟩
   case round =>
    obtain ⟨k, hk, rfl, hal, hbl⟩ := hrel
    by_cases hlt : k < l.length
    · have hltz : (k : Int) < (l.length : Int) := by omega
      have hlt2 : k < l'.length := by have := hlenH.out; omega
      have hltz2 : (k : Int) < (l'.length : Int) := by omega
      obtain ⟨b1, o1, rfl, hb1, hc1⟩ := hA.out k hlt
      obtain ⟨b2, o2, rfl, hb2, hc2⟩ := hB.out k hlt2
      obtain ⟨u1, x0, x1, x2, hq1⟩ := hc1.keep hbl.out
      obtain ⟨u2, y0, y1, y2, hq2⟩ := hc2.keep hbl.out
      obtain ⟨a1, c1, rfl⟩ := shapeC hq1
      obtain ⟨a2, c2, rfl⟩ := shapeC hq2
      obtain ⟨V1, hV1⟩ : ∃ x, wr.alloc (.cells #[.string (strT l[k].name), .slice a1 l[k].re.length c1, .bool l[k].skip] 48) = x := ⟨_, rfl⟩
      have hD1 : Below wr.heap.size wr V1 := by rw [← hV1]; exact al' wr _
      have y0 := keep_cell hD1 y0
      have y1 := keep_cell hD1 y1
      have y2 := keep_cell hD1 y2
      obtain ⟨V2, hV2⟩ : ∃ x, V1.alloc (.cells #[.string (strT l'[k].name), .slice a2 l'[k].re.length c2, .bool l'[k].skip] 48) = x := ⟨_, rfl⟩
      have hD2 : Below V1.heap.size V1 V2 := by rw [← hV2]; exact al' V1 _
      have hk1 : V1.heap[wr.heap.size]? = some (.cells #[.string (strT l[k].name), .slice a1 l[k].re.length c1, .bool l[k].skip] 48) := by rw [← hV1]; exact heap_new wr _
      have hk2 : V2.heap[V1.heap.size]? = some (.cells #[.string (strT l'[k].name), .slice a2 l'[k].re.length c2, .bool l'[k].skip] 48) := by rw [← hV2]; exact heap_new V1 _
      obtain ⟨p0, p1, p2⟩ := cells3q (hs_keep hk1 hD2)
      obtain ⟨z0, z1, z2⟩ := cells3q hk2
      have hD := bl_step hD1 hD2
      have G := hid (sameRuleC l[k] l'[k] _ _ V2 (hq1.keep hD) (hq2.keep hD) (hr _ (List.getElem_mem hlt)) (hr' _ (List.getElem_mem hlt2)))
      have hbl := hid (bl_step hbl.out hD)
      clear hk1 hk2 hq1 hq2 hb1 hb2 hc1 hc2 hD hD1 hD2
      by_cases he : l[k] = l'[k]
      · have hnx : Hid (∀ j (h : j < l.length) (h' : j < l'.length), j < k + 1 → l[j] = l'[j]) := hid (fun j h h' hj => by
         rcases Nat.lt_or_ge j k with h9 | h9
         · exact hal.out j h h' h9
         · obtain rfl : j = k := by omega
           exact he)
        rw [decide_eq_true he] at G
        clear hal hy hn he
        generalize l[k] = x at *
        generalize l'[k] = y at *
        go_wp2_with (go_at_call 40; refine G.out.mono ?_; clear G; rintro e w3 ⟨rfl, hc⟩; have hc := hid hc)
        go_roundw
        case rel => exact ⟨k + 1, by omega, by go_num, hnx, hid (bl_step hbl.out hc.out)⟩
        case measure => simp [intOf]; omega
      · obtain rfl := hn.out k hlt hlt2 he
        rw [decide_eq_false he] at G
        clear hal hy hn he
        generalize l[k] = x at *
        generalize l'[k] = y at *
        go_wp2_with (go_at_call 40; refine G.out.mono ?_; clear G; rintro e w3 ⟨rfl, hc⟩; have hc := hid hc)
        go_ret
        exact ⟨rfl, bl_step hbl.out hc.out⟩
    · have hltz : ¬ (k : Int) < (l.length : Int) := by omega
      obtain rfl := hy.out (fun j h h' => hal.out j h h' (by omega))
      clear hA hB hy hn hal
      go_wp2
      go_ret
      exact ⟨rfl, hbl.out⟩
 · have hlz : ((l.length : Int) != (l'.length : Int)) = true := bne_iff_ne.2 (by omega)
   obtain h9 := eqL_len (l := l) (l' := l') hlen
   rw [h9]
   clear hA hB h9 hlen
   go_enter Tryz.func39, Tryz.ntmps39
   go_wp2
   go_ret
   exact ⟨rfl, Below.refl _ _⟩
set_option maxRecDepth 20000 in
set_option maxHeartbeats 4000000 in
theorem eqProdsC (v v' : Value) (l l' : List Pd) (w : World) (hA : Lst 3 ProdAt w v l) (hB : Lst 3 ProdAt w v' l') (hl : l.length ≤ 1000000) (_ : l'.length ≤ 1000000) (hr : ∀ x ∈ l, x.right.length ≤ 1000000) (hr' : ∀ x ∈ l', x.right.length ≤ 1000000) :
 Calls Tryz.prog 21 #[v, v', .func (.func 22) #[] #[]] w fun e w' => e = .returned (.bool (decide (l = l'))) ∧ Below w.heap.size w w' := by
 obtain ⟨aa, ca, rfl, _, _, hA⟩ := hA
 obtain ⟨ab, cb, rfl, _, _, hB⟩ := hB
 by_cases hlen : l.length = l'.length
 · have hy := hid (fun h => eqL_yes hlen h)
   have hn := hid (fun k h h' hne => eqL_no (l := l) (l' := l') (k := k) h h' hne)
   have hlz : ((l.length : Int) != (l'.length : Int)) = false := by rw [hlen]; simp
   have hlenH := hid hlen
   clear hlen
   have hA := hid hA
   have hB := hid hB
   generalize decide (l = l') = R at *
   go_enter Tryz.func21, Tryz.ntmps21
   go_wp2
   clear hlz
   go_loopw [17] (fun i wr => ∃ k : Nat, k ≤ l.length ∧ i = .int .i64 (k : Int) ∧ Hid (∀ j (h : j < l.length) (h' : j < l'.length), j < k → l[j] = l'[j]) ∧ Hid (Below w.heap.size w wr)) (fun i _ => l.length - (intOf i).toNat)
   case atStart => exact ⟨0, Nat.zero_le _, rfl, hid (fun j _ _ h => absurd h (Nat.not_lt_zero _)), hid (Below.refl _ w)⟩
   case round =>
    obtain ⟨k, hk, rfl, hal, hbl⟩ := hrel
    by_cases hlt : k < l.length
    · have hltz : (k : Int) < (l.length : Int) := by omega
      have hlt2 : k < l'.length := by have := hlenH.out; omega
      have hltz2 : (k : Int) < (l'.length : Int) := by omega
      obtain ⟨b1, o1, rfl, hb1, hc1⟩ := hA.out k hlt
      obtain ⟨b2, o2, rfl, hb2, hc2⟩ := hB.out k hlt2
      obtain ⟨u1, x0, x1, x2, hq1⟩ := hc1.keep hbl.out
      obtain ⟨u2, y0, y1, y2, hq2⟩ := hc2.keep hbl.out
      obtain ⟨a1, c1, rfl⟩ := shapeN hq1
      obtain ⟨a2, c2, rfl⟩ := shapeN hq2
      obtain ⟨V1, hV1⟩ : ∃ x, wr.alloc (.cells #[.int .i64 l[k].left, .slice a1 l[k].right.length c1, .int .i64 l[k].prec] 50) = x := ⟨_, rfl⟩
      have hD1 : Below wr.heap.size wr V1 := by rw [← hV1]; exact al' wr _
      have y0 := keep_cell hD1 y0
      have y1 := keep_cell hD1 y1
      have y2 := keep_cell hD1 y2
      obtain ⟨V2, hV2⟩ : ∃ x, V1.alloc (.cells #[.int .i64 l'[k].left, .slice a2 l'[k].right.length c2, .int .i64 l'[k].prec] 50) = x := ⟨_, rfl⟩
      have hD2 : Below V1.heap.size V1 V2 := by rw [← hV2]; exact al' V1 _
      have hk1 : V1.heap[wr.heap.size]? = some (.cells #[.int .i64 l[k].left, .slice a1 l[k].right.length c1, .int .i64 l[k].prec] 50) := by rw [← hV1]; exact heap_new wr _
      have hk2 : V2.heap[V1.heap.size]? = some (.cells #[.int .i64 l'[k].left, .slice a2 l'[k].right.length c2, .int .i64 l'[k].prec] 50) := by rw [← hV2]; exact heap_new V1 _
      obtain ⟨p0, p1, p2⟩ := cells3q (hs_keep hk1 hD2)
      obtain ⟨z0, z1, z2⟩ := cells3q hk2
      have hD := bl_step hD1 hD2
      have G := hid (sameProdC l[k] l'[k] _ _ V2 (hq1.keep hD) (hq2.keep hD) (hr _ (List.getElem_mem hlt)) (hr' _ (List.getElem_mem hlt2)))
      have hbl := hid (bl_step hbl.out hD)
      clear hk1 hk2 hq1 hq2 hb1 hb2 hc1 hc2 hD hD1 hD2
      by_cases he : l[k] = l'[k]
      · have hnx : Hid (∀ j (h : j < l.length) (h' : j < l'.length), j < k + 1 → l[j] = l'[j]) := hid (fun j h h' hj => by
         rcases Nat.lt_or_ge j k with h9 | h9
         · exact hal.out j h h' h9
         · obtain rfl : j = k := by omega
           exact he)
        rw [decide_eq_true he] at G
        clear hal hy hn he
        generalize l[k] = x at *
        generalize l'[k] = y at *
        go_wp2_with (go_at_call 22; refine G.out.mono ?_; clear G; rintro e w3 ⟨rfl, hc⟩; have hc := hid hc)
        go_roundw
        case rel => exact ⟨k + 1, by omega, by go_num, hnx, hid (bl_step hbl.out hc.out)⟩
        case measure => simp [intOf]; omega
      · obtain rfl := hn.out k hlt hlt2 he
        rw [decide_eq_false he] at G
        clear hal hy hn he
        generalize l[k] = x at *
        generalize l'[k] = y at *
        go_wp2_with (go_at_call 22; refine G.out.mono ?_; clear G; rintro e w3 ⟨rfl, hc⟩; have hc := hid hc)
        go_ret
        exact ⟨rfl, bl_step hbl.out hc.out⟩
    · have hltz : ¬ (k : Int) < (l.length : Int) := by omega
      obtain rfl := hy.out (fun j h h' => hal.out j h h' (by omega))
      clear hA hB hy hn hal
      go_wp2
      go_ret
      exact ⟨rfl, hbl.out⟩
 · have hlz : ((l.length : Int) != (l'.length : Int)) = true := bne_iff_ne.2 (by omega)
   obtain h9 := eqL_len (l := l) (l' := l') hlen
   rw [h9]
   clear hA hB h9 hlen
   go_enter Tryz.func21, Tryz.ntmps21
   go_wp2
   go_ret
   exact ⟨rfl, Below.refl _ _⟩
set_option maxRecDepth 20000 in
set_option maxHeartbeats 4000000 in
theorem sameRulesC (g h : Gm) (rv nv lv pv rv' nv' lv' pv' : Value) (w : World) (hV : GmV w rv nv lv pv g) (hV' : GmV w rv' nv' lv' pv' h) (hb : BndG g) (hb' : BndG h) :
 Calls Tryz.prog 18 #[gmA rv nv lv pv g.start, gmA rv' nv' lv' pv' h.start] w fun e w' => e = .returned (.bool (decide (g.rules = h.rules))) ∧ Below w.heap.size w w' := by
 obtain ⟨ra, rc, rfl⟩ := hV.rules.shape
 obtain ⟨ra', rc', rfl⟩ := hV'.rules.shape
 obtain ⟨W, hW, hB1, hBx⟩ := boxes2 w (.slice ra g.rules.length rc) nv lv pv (.slice ra' h.rules.length rc') nv' lv' pv' g.start h.start
 obtain ⟨⟨x0, x1, x2, x3, x4⟩, ⟨y0, y1, y2, y3, y4⟩⟩ := hBx W (Below.refl _ _)
 have G := hid (eqRulesC _ _ g.rules h.rules W (hV.keep hB1).rules (hV'.keep hB1).rules (by have := hb.rules; omega) (by have := hb'.rules; omega) (fun x hx => by have := hb.re x hx; omega) (fun x hx => by have := hb'.re x hx; omega))
 have hB := hid hB1
 clear hV hV' hb hb' hB1 hBx x1 x2 x3 x4 y1 y2 y3 y4
 generalize decide (g.rules = h.rules) = R at *
 generalize g.rules.length = n1 at *
 generalize h.rules.length = m1 at *
 generalize g.start = s1 at *
 generalize h.start = s2 at *
 go_enter Tryz.func18, Tryz.ntmps18
 go_wp2_with (go_at_call 39; refine G.out.mono ?_; clear G; rintro e w1 ⟨rfl, hc⟩; have hc := hid hc)
 go_ret
 exact ⟨rfl, bl_step hB.out hc.out⟩
set_option maxRecDepth 20000 in
set_option maxHeartbeats 4000000 in
theorem sameC (g h : Gm) (rv nv lv pv rv' nv' lv' pv' : Value) (w : World) (hV : GmV w rv nv lv pv g) (hV' : GmV w rv' nv' lv' pv' h) (hb : BndG g) (hb' : BndG h) :
 Calls Tryz.prog 10 #[gmA rv nv lv pv g.start, gmA rv' nv' lv' pv' h.start] w fun e w' => e = .returned (.bool (decide (g = h))) ∧ Below w.heap.size w w' := by
 obtain ⟨ra, rc, rfl⟩ := hV.rules.shape
 obtain ⟨na, nc, rfl⟩ := hV.nonts.shape
 obtain ⟨la, lc, rfl⟩ := hV.levels.shape
 obtain ⟨pa, pc, rfl⟩ := hV.prods.shape
 obtain ⟨ra', rc', rfl⟩ := hV'.rules.shape
 obtain ⟨na', nc', rfl⟩ := hV'.nonts.shape
 obtain ⟨la', lc', rfl⟩ := hV'.levels.shape
 obtain ⟨pa', pc', rfl⟩ := hV'.prods.shape
 have hB1 := al' w (.cells #[.slice ra g.rules.length rc, .slice na g.nonts.length nc, .slice la g.levels.length lc, .slice pa g.prods.length pc, .int .i64 g.start] 27)
 have hB2 := al' (w.alloc (.cells #[.slice ra g.rules.length rc, .slice na g.nonts.length nc, .slice la g.levels.length lc, .slice pa g.prods.length pc, .int .i64 g.start] 27)) (.cells #[.slice ra' h.rules.length rc', .slice na' h.nonts.length nc', .slice la' h.levels.length lc', .slice pa' h.prods.length pc', .int .i64 h.start] 27)
 have k1 := hs_keep (heap_new w (.cells #[.slice ra g.rules.length rc, .slice na g.nonts.length nc, .slice la g.levels.length lc, .slice pa g.prods.length pc, .int .i64 g.start] 27)) hB2
 have k2 := heap_new (w.alloc (.cells #[.slice ra g.rules.length rc, .slice na g.nonts.length nc, .slice la g.levels.length lc, .slice pa g.prods.length pc, .int .i64 g.start] 27)) (.cells #[.slice ra' h.rules.length rc', .slice na' h.nonts.length nc', .slice la' h.levels.length lc', .slice pa' h.prods.length pc', .int .i64 h.start] 27)
 rw [World.size_alloc] at k2
 have hB := hid (bl_step hB1 hB2)
 have hKp := hid (fun u (hu : Below w.heap.size w u) => (⟨hV.keep hu, hV'.keep hu⟩ : _ ∧ _))
 have GR := hid (fun u (hu : Below w.heap.size w u) => sameRulesC g h _ _ _ _ _ _ _ _ u (hKp.out u hu).1 (hKp.out u hu).2 hb hb')
 have GN := hid (fun u (hu : Below w.heap.size w u) => eqStrC _ _ g.nonts h.nonts u (hKp.out u hu).1.nonts (hKp.out u hu).2.nonts (by have := hb.nonts; omega) (by have := hb'.nonts; omega))
 have GL := hid (fun u (hu : Below w.heap.size w u) => eqLevC _ _ g.levels h.levels u (hKp.out u hu).1.levels (hKp.out u hu).2.levels (by have := hb.levels; omega) (by have := hb'.levels; omega))
 have GP := hid (fun u (hu : Below w.heap.size w u) => eqProdsC _ _ g.prods h.prods u (hKp.out u hu).1.prods (hKp.out u hu).2.prods (by have := hb.prods; omega) (by have := hb'.prods; omega) (fun x hx => by have := hb.right x hx; omega) (fun x hx => by have := hb'.right x hx; omega))
 obtain ⟨W, hW⟩ : ∃ x, (w.alloc (.cells #[.slice ra g.rules.length rc, .slice na g.nonts.length nc, .slice la g.levels.length lc, .slice pa g.prods.length pc, .int .i64 g.start] 27)).alloc (.cells #[.slice ra' h.rules.length rc', .slice na' h.nonts.length nc', .slice la' h.levels.length lc', .slice pa' h.prods.length pc', .int .i64 h.start] 27) = x := ⟨_, rfl⟩
 rw [hW] at hB k1 k2
 have hk1 := hid k1
 have hk2 := hid k2
 obtain ⟨x0, x1, x2, x3, x4⟩ := cells5m k1
 obtain ⟨y0, y1, y2, y3, y4⟩ := cells5m k2
 clear hV hV' hb hb' hB1 hB2 k1 k2
 have hst : Hid (decide (g = h) = (decide (g.rules = h.rules) && (decide (g.nonts = h.nonts) && (decide (g.levels = h.levels) && (decide (g.prods = h.prods) && (g.start == h.start)))))) := hid (by
  obtain ⟨a1, a2, a3, a4, a5⟩ := g
  obtain ⟨b1, b2, b3, b4, b5⟩ := h
  by_cases e1 : a1 = b1 <;> by_cases e2 : a2 = b2 <;> by_cases e3 : a3 = b3 <;> by_cases e4 : a4 = b4 <;> by_cases e5 : a5 = b5 <;> simp [e1, e2, e3, e4, e5])
 rw [hst.out]
 clear hst
 generalize decide (g.rules = h.rules) = R1 at *
 generalize decide (g.nonts = h.nonts) = R2 at *
 generalize decide (g.levels = h.levels) = R3 at *
 generalize decide (g.prods = h.prods) = R4 at *
 clear hKp
 generalize g.rules.length = n1 at *
 generalize g.nonts.length = n2 at *
 generalize g.levels.length = n3 at *
 generalize g.prods.length = n4 at *
 generalize h.rules.length = m1 at *
 generalize h.nonts.length = m2 at *
 generalize h.levels.length = m3 at *
 generalize h.prods.length = m4 at *
 generalize g.start = s1 at *
 generalize h.start = s2 at *
 cases R1 <;> cases R2 <;> cases R3 <;> cases R4 <;>
 · go_enter Tryz.func10, Tryz.ntmps10
   go_wp2_with (first
    | (go_at_call 18; refine (GR.out _ hB.out).mono ?_; clear GR; rintro e w1 ⟨rfl, hc⟩; obtain ⟨p0, p1, p2, p3, p4⟩ := cells5m (hs_keep hk1.out hc); obtain ⟨q0, q1, q2, q3, q4⟩ := cells5m (hs_keep hk2.out hc); have g1 := hid (hs_keep hk1.out hc); have g2 := hid (hs_keep hk2.out hc); have hD := hid (bl_step hB.out hc); clear hB hk1 hk2 x0 x1 x2 x3 x4 y0 y1 y2 y3 y4; have hB := hD; have hk1 := g1; have hk2 := g2; clear hD g1 g2)
    | (go_at_call 19; refine (GN.out _ hB.out).mono ?_; clear GN; rintro e w1 ⟨rfl, hc⟩; obtain ⟨x0, x1, x2, x3, x4⟩ := cells5m (hs_keep hk1.out hc); obtain ⟨y0, y1, y2, y3, y4⟩ := cells5m (hs_keep hk2.out hc); have g1 := hid (hs_keep hk1.out hc); have g2 := hid (hs_keep hk2.out hc); have hD := hid (bl_step hB.out hc); clear hB hk1 hk2 p0 p1 p2 p3 p4 q0 q1 q2 q3 q4; have hB := hD; have hk1 := g1; have hk2 := g2; clear hD g1 g2)
    | (go_at_call 20; refine (GL.out _ hB.out).mono ?_; clear GL; rintro e w1 ⟨rfl, hc⟩; obtain ⟨p0, p1, p2, p3, p4⟩ := cells5m (hs_keep hk1.out hc); obtain ⟨q0, q1, q2, q3, q4⟩ := cells5m (hs_keep hk2.out hc); have g1 := hid (hs_keep hk1.out hc); have g2 := hid (hs_keep hk2.out hc); have hD := hid (bl_step hB.out hc); clear hB hk1 hk2 x0 x1 x2 x3 x4 y0 y1 y2 y3 y4; have hB := hD; have hk1 := g1; have hk2 := g2; clear hD g1 g2)
    | (go_at_call 21; refine (GP.out _ hB.out).mono ?_; clear GP; rintro e w1 ⟨rfl, hc⟩; obtain ⟨x0, x1, x2, x3, x4⟩ := cells5m (hs_keep hk1.out hc); obtain ⟨y0, y1, y2, y3, y4⟩ := cells5m (hs_keep hk2.out hc); have g1 := hid (hs_keep hk1.out hc); have g2 := hid (hs_keep hk2.out hc); have hD := hid (bl_step hB.out hc); clear hB hk1 hk2 p0 p1 p2 p3 p4 q0 q1 q2 q3 q4; have hB := hD; have hk1 := g1; have hk2 := g2; clear hD g1 g2))
   go_ret
   exact ⟨by simp, hB.out⟩

end Go.Proofs.YtloaikjealcbmaaGreat
