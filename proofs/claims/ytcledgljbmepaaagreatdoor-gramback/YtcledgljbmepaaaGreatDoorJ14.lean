/- What layer 11 leans on: worlds, rows, texts. Grammars in memory: rules, nonterminals, levels, productions, wherever they lie. slices.Equal, of numbers, texts, levels, cells. topiaryref12.Terms, Name; topiarylaw12.long. -/
import Derived.Test.YtcledgljbmepaaaGreatDoorJ13
import Derived.Test.YtcledgljbmepaaaGreatDoorJ7
import Derived.WalkKit
import Derived.ProofKit
import Derived.OpenShut
import Derived.Carry
import Derived.Lib.SmallJoins
import Derived.WalkSpells
import Derived.Laws.StructEq
import Derived.ChangeKeysEq
import Derived.Deep.DeepHandedRow
import Derived.Lib.LaidTab
import Derived.Shelf.Spec.TrailingZeros
import Derived.MakeChecks
import Derived.Lib.TrailingZeros
import Derived.Laws.AppendOwnNone
import Derived.Laws.OwnMore
import Derived.Laws.BytesString
import Derived.BigQuiet
import Derived.OwnWalk
import Derived.Deep.RegionHeld3
import Derived.Deep.RegionLaw
import Derived.Deep.OwnRows
import Derived.BigRegion
import Derived.Lib.SlicesCompact
import Derived.Lib.OwnBridge
import Derived.Deep.QuietTactic
import Derived.Deep.AppendLies
import Derived.Maps.AppendAt
import Derived.Maps.OwnSet
import Derived.Deep.DrawnRows
import Derived.WalkMore
import Derived.Lib.QuietBelow
import Derived.WalkLawsBesides
import Derived.Laws.StandIn
import Derived.Lib.Bytealg
import Derived.Laws.BitsAllLaws
import Derived.Laws.Bits128
import Derived.Lib.UnsafeStr
import Derived.Laws.BytesArg
import Derived.Lib.IndexLaws
import Derived.Defers
import Derived.Recover
import Derived.ChangeSlices
import Derived.Deep.Slices
import Derived.WideKeyArr2
import Derived.SizedLaws
namespace Go.Proofs.YtcledgljbmepaaaGreatDoor
open Go.ChangeShapes Go.WideShapes Go.ChangeAt Go.RowKit Go.Sort Go.Maps Go.Lib

def enc (r k : Nat) : Int := (r : Int) * 1000 + (k : Int)
theorem Kept.cell {F : Nat → Prop} {w w' : World} (h : Kept F w w') {b o : Nat} {v : Value} (hc : w.cell? ⟨b, o, .none⟩ = some v) (hb : b < w.heap.size) (hn : ¬ F b) : w'.cell? ⟨b, o, .none⟩ = some v := by
  simp only [World.cell?, h.block b hb hn] at hc ⊢
  exact hc
instance : Inhabited W4 := ⟨⟨0, 0, 0, 0⟩⟩
instance : Inhabited Cel := ⟨⟨0, ⟨0, 0, 0, 0⟩⟩⟩
end Go.Proofs.YtcledgljbmepaaaGreatDoor
namespace Go.Proofs.YtcledgljbmepaaaGreatDoor
open Go.RowKit Go.Maps

/-- a slice of things that take sz cells each, wherever it lies -/
def Lst {α : Type} (sz : Nat) (R : World → Nat → Nat → α → Prop) (w : World) (v : Value) (l : List α) : Prop := ∃ a cap, v = .slice a l.length cap ∧ l.length ≤ cap ∧ (a = none → cap = 0) ∧ ∀ j (h : j < l.length), ∃ b o, a = some ⟨b, o, none⟩ ∧ b < w.heap.size ∧ R w b (o + j * sz) l[j]
theorem Lst.keepR {α : Type} {sz : Nat} {R : World → Nat → Nat → α → Prop} {w u : World} {v : Value} {l : List α} (h : Lst sz R w v l) (hs : w.heap.size ≤ u.heap.size) (hR : ∀ b o x, b < w.heap.size → R w b o x → R u b o x) : Lst sz R u v l := by
  obtain ⟨a, cap, e, hc, hn, hat⟩ := h
  refine ⟨a, cap, e, hc, hn, fun j hj => ?_⟩
  obtain ⟨b, o, e1, h1, h2⟩ := hat j hj
  exact ⟨b, o, e1, Nat.lt_of_lt_of_le h1 hs, hR _ _ _ h1 h2⟩
theorem Lst.shape {α : Type} {sz : Nat} {R : World → Nat → Nat → α → Prop} {w : World} {v : Value} {l : List α} (h : Lst sz R w v l) : ∃ a c, v = .slice a l.length c := by obtain ⟨a, c, e, _⟩ := h; exact ⟨a, c, e⟩
theorem Lst.at {α : Type} {sz : Nat} {R : World → Nat → Nat → α → Prop} {w : World} {a : Option Addr} {n c : Nat} {l : List α} (h : Lst sz R w (.slice a n c) l) {j : Nat} (hj : j < l.length) : ∃ b o, a = some ⟨b, o, none⟩ ∧ b < w.heap.size ∧ R w b (o + j * sz) l[j] := by
  obtain ⟨a', c', e, _, _, hat⟩ := h
  injection e with e1 _ _
  subst e1
  exact hat j hj
theorem Lst.nil {α : Type} {sz : Nat} {R : World → Nat → Nat → α → Prop} (w : World) : Lst sz R w (.slice none 0 0) [] := ⟨none, 0, rfl, Nat.le_refl _, fun _ => rfl, fun _ hj => absurd hj (Nat.not_lt_zero _)⟩

/-- a token rule, a production, a grammar -/
structure Rl where
  name : Txt
  re : List Cel
  skip : Bool
structure Pd where
  left : Int
  right : List Int
  prec : Int
structure Gm where
  rules : List Rl
  nonts : List Txt
  levels : List (Int × Int)
  prods : List Pd
  start : Int
def RuleAt (w : World) (b o : Nat) (r : Rl) : Prop := ∃ v, w.cell? ⟨b, o, none⟩ = some (.string (strT r.name)) ∧ w.cell? ⟨b, o + 1, none⟩ = some v ∧ w.cell? ⟨b, o + 2, none⟩ = some (.bool r.skip) ∧ Cels w v r.re
def TxtAt (w : World) (b o : Nat) (t : Txt) : Prop := w.cell? ⟨b, o, none⟩ = some (.string (strT t))
def LevAt (w : World) (b o : Nat) (p : Int × Int) : Prop := w.cell? ⟨b, o, none⟩ = some (.int .i64 p.1) ∧ w.cell? ⟨b, o + 1, none⟩ = some (.int .i64 p.2)
def ProdAt (w : World) (b o : Nat) (p : Pd) : Prop := ∃ v, w.cell? ⟨b, o, none⟩ = some (.int .i64 p.left) ∧ w.cell? ⟨b, o + 1, none⟩ = some v ∧ w.cell? ⟨b, o + 2, none⟩ = some (.int .i64 p.prec) ∧ Nums w v p.right
theorem RuleAt.keep {w u : World} {b o : Nat} {r : Rl} (h : RuleAt w b o r) (hu : Below w.heap.size w u) : RuleAt u b o r := by
  obtain ⟨v, h0, h1, h2, h3⟩ := h
  exact ⟨v, keep_cell hu h0, keep_cell hu h1, keep_cell hu h2, h3.keep hu⟩
theorem ProdAt.keep {w u : World} {b o : Nat} {p : Pd} (h : ProdAt w b o p) (hu : Below w.heap.size w u) : ProdAt u b o p := by
  obtain ⟨v, h0, h1, h2, h3⟩ := h
  exact ⟨v, keep_cell hu h0, keep_cell hu h1, keep_cell hu h2, h3.keep hu⟩
structure GmV (w : World) (rv nv lv pv : Value) (g : Gm) : Prop where
  rules : Lst 3 RuleAt w rv g.rules
  nonts : Lst 1 TxtAt w nv g.nonts
  levels : Lst 2 LevAt w lv g.levels
  prods : Lst 3 ProdAt w pv g.prods
theorem GmV.keep {w u : World} {rv nv lv pv : Value} {g : Gm} (h : GmV w rv nv lv pv g) (hu : Below w.heap.size w u) : GmV u rv nv lv pv g :=
  ⟨h.rules.keepR hu.size fun _ _ _ _ h => h.keep hu, h.nonts.keepR hu.size fun _ _ _ _ h => keep_cell hu h, h.levels.keepR hu.size fun _ _ _ _ h => ⟨keep_cell hu h.1, keep_cell hu h.2⟩, h.prods.keepR hu.size fun _ _ _ _ h => h.keep hu⟩
/-- how many of the first k rules are no skip rules -/
def trmK (l : List Rl) (k : Nat) : Nat := ((l.take k).filter fun r => !r.skip).length
theorem trmK_succ {l : List Rl} {k : Nat} (hk : k < l.length) : trmK l (k + 1) = trmK l k + (if l[k].skip then 0 else 1) := by
  unfold trmK
  rw [List.take_add_one, List.getElem?_eq_getElem hk, Option.toList_some, List.filter_append, List.length_append]
  cases h : l[k].skip <;> simp [h]
theorem trmK_le (l : List Rl) (k : Nat) : trmK l k ≤ k := Nat.le_trans (List.length_filter_le _ _) (by rw [List.length_take]; omega)
def Gm.terms (g : Gm) : Nat := trmK g.rules g.rules.length
/-- all names, the end's first -/
def nmsK (l : List Rl) (k : Nat) : List Txt := [36] :: ((l.take k).filter fun r => !r.skip).map Rl.name
theorem nmsK_len (l : List Rl) (k : Nat) : (nmsK l k).length = trmK l k + 1 := by unfold nmsK trmK; simp
theorem nmsK_succ {l : List Rl} {k : Nat} (hk : k < l.length) : nmsK l (k + 1) = nmsK l k ++ (if l[k].skip then [] else [l[k].name]) := by
  unfold nmsK
  rw [List.take_add_one, List.getElem?_eq_getElem hk, Option.toList_some, List.filter_append, List.map_append]
  cases h : l[k].skip <;> simp [h]
def Gm.names (g : Gm) : List Txt := nmsK g.rules g.rules.length ++ g.nonts
def Gm.name (g : Gm) (s : Int) : Txt := if s < 0 then [] else g.names.getD s.toNat []

end Go.Proofs.YtcledgljbmepaaaGreatDoor
namespace Go.Proofs.YtcledgljbmepaaaGreatDoor
open Go.RowKit Go.Maps

theorem eqL_len {α : Type} [DecidableEq α] {l l' : List α} (h : l.length ≠ l'.length) : decide (l = l') = false := decide_eq_false fun e => h (by rw [e])
theorem eqL_no {α : Type} [DecidableEq α] {l l' : List α} {k : Nat} (h : k < l.length) (h' : k < l'.length) (hn : l[k] ≠ l'[k]) : decide (l = l') = false := decide_eq_false fun e => hn (by subst e; rfl)
theorem eqL_yes {α : Type} [DecidableEq α] {l l' : List α} (h : l.length = l'.length) (ha : ∀ j (h : j < l.length) (h' : j < l'.length), l[j] = l'[j]) : decide (l = l') = true := decide_eq_true (List.ext_getElem h ha)
theorem strT_beq (s t : Txt) : ((strT s).toList == (strT t).toList) = decide (s = t) := by
  rw [strT_toL, strT_toL]
  by_cases h : s = t
  · subst h; simp
  · simp [h]
set_option maxRecDepth 20000 in
theorem flds_lev : (Tryz.prog.fieldsOf 71).toList = [{ name := "Power", type := 3, offset := 0, embedded := false, tag := "", pkgPath := "", byteOffset := 0 }, { name := "Side", type := 3, offset := 1, embedded := false, tag := "", pkgPath := "", byteOffset := 8 }] := by kernel_rfl
set_option maxRecDepth 20000 in
theorem neqLev (x y : Int × Int) (w : World) : (binOp .neq 71 (.agg #[.int .i64 x.1, .int .i64 x.2]) (.agg #[.int .i64 y.1, .int .i64 y.2])).run Tryz.prog w = .ok (.bool (!decide (x = y))) w := by
  obtain ⟨a, b⟩ := x
  obtain ⟨a', b'⟩ := y
  have p0 : ∀ x0 x1 : Int, (part 3 #[.int .i64 x0, .int .i64 x1] 0).run Tryz.prog w = .ok (.int .i64 x0) w := fun _ _ => by simp [part, isAgg, run_underlying Tryz.underlying3]
  have p1 : ∀ x0 x1 : Int, (part 3 #[.int .i64 x0, .int .i64 x1] 1).run Tryz.prog w = .ok (.int .i64 x1) w := fun _ _ => by simp [part, isAgg, run_underlying Tryz.underlying3]
  have hi := fun d x y => run_equalIn_int (P := Tryz.prog) w d 3 .i64 .i64 x y Tryz.underlying3
  rw [run_neq_struct, run_equalIn_struct w 9999 _ _ _ (by kernel_rfl) (by kernel_rfl), flds_lev]
  by_cases h0 : a = a'
  · by_cases h1 : b = b'
    · subst h0 h1; simp [Op.eqFields, p0, p1, hi]
    · subst h0; simp [Op.eqFields, p0, p1, hi, h1]
  · simp [Op.eqFields, p0, hi, h0]
set_option maxRecDepth 20000 in
theorem flds_cel : (Tryz.prog.fieldsOf 112).toList = [{ name := "Op", type := 3, offset := 0, embedded := false, tag := "", pkgPath := "", byteOffset := 0 }, { name := "Set", type := 110, offset := 1, embedded := false, tag := "", pkgPath := "", byteOffset := 8 }] := by kernel_rfl
theorem At5.keep2 {w w' : World} {b o : Nat} {c : Cel} (h : At5 w b o c) (hb : Below w.heap.size w w') (_ : b < w.heap.size) : At5 w' b o c := h.keep hb
abbrev celW (x : Cel) : Value := .agg #[.int .i64 x.op, .int .u64 (x.s.a : Int), .int .u64 (x.s.b : Int), .int .u64 (x.s.c : Int), .int .u64 (x.s.d : Int)]
set_option maxRecDepth 20000 in
theorem neqCel (x y : Cel) (w : World) : (binOp .neq 112 (celW x) (celW y)).run Tryz.prog w = .ok (.bool (!decide (x = y))) w := by
  obtain ⟨a, s, t, u, v⟩ := x
  obtain ⟨a', s', t', u', v'⟩ := y
  have p0 : ∀ (x0 : Int) (x1 x2 x3 x4 : Int), (part 3 #[.int .i64 x0, .int .u64 x1, .int .u64 x2, .int .u64 x3, .int .u64 x4] 0).run Tryz.prog w = .ok (.int .i64 x0) w := fun _ _ _ _ _ => by simp [part, isAgg, run_underlying Tryz.underlying3]
  have p1 : ∀ (x0 : Int) (x1 x2 x3 x4 : Nat), (part 110 #[.int .i64 x0, .int .u64 (x1 : Int), .int .u64 (x2 : Int), .int .u64 (x3 : Int), .int .u64 (x4 : Int)] 1).run Tryz.prog w = .ok (valB ⟨x1, x2, x3, x4⟩) w := fun _ _ _ _ _ => by kernel_rfl
  have hi := fun d x y => run_equalIn_int (P := Tryz.prog) w d 3 .i64 .i64 x y Tryz.underlying3
  have h4 := equal4 9997 s t u v s' t' u' v' w
  show (binOp .neq 112 (.agg #[.int .i64 a, .int .u64 (s : Int), .int .u64 (t : Int), .int .u64 (u : Int), .int .u64 (v : Int)]) (.agg #[.int .i64 a', .int .u64 (s' : Int), .int .u64 (t' : Int), .int .u64 (u' : Int), .int .u64 (v' : Int)])).run Tryz.prog w = _
  rw [run_neq_struct, run_equalIn_struct w 9999 _ _ _ (by kernel_rfl) (by kernel_rfl), flds_cel]
  by_cases h0 : a = a'
  · subst h0
    by_cases h1 : (⟨s, t, u, v⟩ : W4) = ⟨s', t', u', v'⟩
    · rw [decide_eq_true h1] at h4
      have h2 : ((⟨a, ⟨s, t, u, v⟩⟩ : Cel) = ⟨a, ⟨s', t', u', v'⟩⟩) := by rw [h1]
      rw [decide_eq_true h2]
      simp [Op.eqFields, p0, p1, hi, h4]
    · rw [decide_eq_false h1] at h4
      have h2 : ¬ ((⟨a, ⟨s, t, u, v⟩⟩ : Cel) = ⟨a, ⟨s', t', u', v'⟩⟩) := fun e => h1 (by injection e)
      rw [decide_eq_false h2]
      simp [Op.eqFields, p0, p1, hi, h4]
  · have h2 : ¬ ((⟨a, ⟨s, t, u, v⟩⟩ : Cel) = ⟨a', ⟨s', t', u', v'⟩⟩) := fun e => h0 (by injection e)
    rw [decide_eq_false h2]
    simp [Op.eqFields, p0, hi, h0]
set_option maxRecDepth 20000 in
set_option maxHeartbeats 4000000 in
theorem eqIntC (v v' : Value) (l l' : List Int) (w : World) (hA : Nums w v l) (hB : Nums w v' l') (hl : l.length ≤ 1000000) (_ : l'.length ≤ 1000000) :
    Calls Tryz.prog 59 #[v, v'] w fun e w' => e = .returned (.bool (decide (l = l'))) ∧ Below w.heap.size w w' := by
  obtain ⟨aa, ca, rfl, _, _, hA⟩ := hA
  obtain ⟨ab, cb, rfl, _, _, hB⟩ := hB
  by_cases hlen : l.length = l'.length
  · have hy := hid (fun h => eqL_yes hlen h)
    have hn := hid (fun k h h' hne => eqL_no (l := l) (l' := l') (k := k) h h' hne)
    have hlz : ((l.length : Int) != (l'.length : Int)) = false := by rw [hlen]; simp
    generalize decide (l = l') = R at *
    go_enter Tryz.func59, Tryz.ntmps59
    go_wp2
    clear hlz
    go_loopw [13] (fun i wr => ∃ k : Nat, k ≤ l.length ∧ i = .int .i64 (k : Int) ∧ Hid (∀ j (h : j < l.length) (h' : j < l'.length), j < k → l[j] = l'[j]) ∧ Hid (Below w.heap.size w wr)) (fun i _ => l.length - (intOf i).toNat)
    case atStart => exact ⟨0, Nat.zero_le _, rfl, hid (fun j _ _ h => absurd h (Nat.not_lt_zero _)), hid (Below.refl _ w)⟩
    case round =>
      obtain ⟨k, hk, rfl, hal, hbl⟩ := hrel
      by_cases hlt : k < l.length
      · have hltz : (k : Int) < (l.length : Int) := by omega
        have hlt2 : k < l'.length := by omega
        have hltz2 : (k : Int) < (l'.length : Int) := by omega
        obtain ⟨b1, o1, rfl, hb1, hc1⟩ := hA k hlt
        obtain ⟨b2, o2, rfl, hb2, hc2⟩ := hB k hlt2
        have hd1 := (hbl.out.cell hb1).trans hc1
        have hd2 := (hbl.out.cell hb2).trans hc2
        clear hc1 hc2
        clear hA hB
        by_cases he : l[k] = l'[k]
        · have hnx : Hid (∀ j (h : j < l.length) (h' : j < l'.length), j < k + 1 → l[j] = l'[j]) := hid (fun j h h' hj => by
            rcases Nat.lt_or_ge j k with h9 | h9
            · exact hal.out j h h' h9
            · obtain rfl : j = k := by omega
              exact he)
          clear hal hy hn
          generalize l[k] = x at *
          generalize l'[k] = y at *
          have hne : (x != y) = false := by rw [he]; simp
          clear he
          go_wp2_with fail
          go_quiet (fail)
          go_wp2
          go_roundw
          case rel => exact ⟨k + 1, by omega, by go_num, hnx, hid (by first | exact belowN hbl.out | exact belowN (belowN hbl.out))⟩
          case measure => simp [intOf]; omega
        · obtain rfl := hn.out k hlt hlt2 he
          clear hal hy hn
          generalize l[k] = x at *
          generalize l'[k] = y at *
          have hne : (x != y) = true := bne_iff_ne.2 he
          clear he
          go_wp2_with fail
          go_quiet (fail)
          go_wp2
          go_ret
          exact ⟨rfl, by first | exact belowN hbl.out | exact belowN (belowN hbl.out)⟩
      · have hltz : ¬ (k : Int) < (l.length : Int) := by omega
        obtain rfl := hy.out (fun j h h' => hal.out j h h' (by omega))
        clear hA hB hy hn hal
        go_wp2
        go_ret
        exact ⟨rfl, hbl.out⟩
  · have hlz : ((l.length : Int) != (l'.length : Int)) = true := bne_iff_ne.2 (by omega)
    obtain h9 := eqL_len (l := l) (l' := l') hlen
    rw [h9]
    clear hA hB h9 hlen
    go_enter Tryz.func59, Tryz.ntmps59
    go_wp2
    go_ret
    exact ⟨rfl, Below.refl _ _⟩
set_option maxRecDepth 20000 in
set_option maxHeartbeats 4000000 in
theorem eqStrC (v v' : Value) (l l' : List Txt) (w : World) (hA : Lst 1 TxtAt w v l) (hB : Lst 1 TxtAt w v' l') (hl : l.length ≤ 1000000) (_ : l'.length ≤ 1000000) :
    Calls Tryz.prog 39 #[v, v'] w fun e w' => e = .returned (.bool (decide (l = l'))) ∧ Below w.heap.size w w' := by
  obtain ⟨aa, ca, rfl, _, _, hA⟩ := hA
  obtain ⟨ab, cb, rfl, _, _, hB⟩ := hB
  by_cases hlen : l.length = l'.length
  · have hy := hid (fun h => eqL_yes hlen h)
    have hn := hid (fun k h h' hne => eqL_no (l := l) (l' := l') (k := k) h h' hne)
    have hlz : ((l.length : Int) != (l'.length : Int)) = false := by rw [hlen]; simp
    generalize decide (l = l') = R at *
    go_enter Tryz.func39, Tryz.ntmps39
    go_wp2
    clear hlz
    go_loopw [13] (fun i wr => ∃ k : Nat, k ≤ l.length ∧ i = .int .i64 (k : Int) ∧ Hid (∀ j (h : j < l.length) (h' : j < l'.length), j < k → l[j] = l'[j]) ∧ Hid (Below w.heap.size w wr)) (fun i _ => l.length - (intOf i).toNat)
    case atStart => exact ⟨0, Nat.zero_le _, rfl, hid (fun j _ _ h => absurd h (Nat.not_lt_zero _)), hid (Below.refl _ w)⟩
    case round =>
      obtain ⟨k, hk, rfl, hal, hbl⟩ := hrel
      by_cases hlt : k < l.length
      · have hltz : (k : Int) < (l.length : Int) := by omega
        have hlt2 : k < l'.length := by omega
        have hltz2 : (k : Int) < (l'.length : Int) := by omega
        obtain ⟨b1, o1, rfl, hb1, hc1⟩ := hA k hlt
        obtain ⟨b2, o2, rfl, hb2, hc2⟩ := hB k hlt2
        have hc1 : w.cell? ⟨b1, o1 + k * 1, none⟩ = some (.string (strT l[k])) := hc1
        have hc2 : w.cell? ⟨b2, o2 + k * 1, none⟩ = some (.string (strT l'[k])) := hc2
        rw [Nat.mul_one] at hc1 hc2
        have hd1 := (hbl.out.cell hb1).trans hc1
        have hd2 := (hbl.out.cell hb2).trans hc2
        clear hc1 hc2
        clear hA hB
        by_cases he : l[k] = l'[k]
        · have hnx : Hid (∀ j (h : j < l.length) (h' : j < l'.length), j < k + 1 → l[j] = l'[j]) := hid (fun j h h' hj => by
            rcases Nat.lt_or_ge j k with h9 | h9
            · exact hal.out j h h' h9
            · obtain rfl : j = k := by omega
              exact he)
          clear hal hy hn
          generalize l[k] = x at *
          generalize l'[k] = y at *
          have hne : ((strT x).toList == (strT y).toList) = true := by rw [strT_beq]; exact decide_eq_true he
          clear he
          generalize strT x = x at *
          generalize strT y = y at *
          go_wp2_with fail
          go_quiet (fail)
          go_wp2
          go_roundw
          case rel => exact ⟨k + 1, by omega, by go_num, hnx, hid (by first | exact belowN hbl.out | exact belowN (belowN hbl.out))⟩
          case measure => simp [intOf]; omega
        · obtain rfl := hn.out k hlt hlt2 he
          clear hal hy hn
          generalize l[k] = x at *
          generalize l'[k] = y at *
          have hne : ((strT x).toList == (strT y).toList) = false := by rw [strT_beq]; exact decide_eq_false he
          clear he
          generalize strT x = x at *
          generalize strT y = y at *
          go_wp2_with fail
          go_quiet (fail)
          go_wp2
          go_ret
          exact ⟨rfl, by first | exact belowN hbl.out | exact belowN (belowN hbl.out)⟩
      · have hltz : ¬ (k : Int) < (l.length : Int) := by omega
        obtain rfl := hy.out (fun j h h' => hal.out j h h' (by omega))
        clear hA hB hy hn hal
        go_wp2
        go_ret
        exact ⟨rfl, hbl.out⟩
  · have hlz : ((l.length : Int) != (l'.length : Int)) = true := bne_iff_ne.2 (by omega)
    obtain h9 := eqL_len (l := l) (l' := l') hlen
    rw [h9]
    clear hA hB h9 hlen
    go_enter Tryz.func39, Tryz.ntmps39
    go_wp2
    go_ret
    exact ⟨rfl, Below.refl _ _⟩
set_option maxRecDepth 20000 in
set_option maxHeartbeats 4000000 in
theorem eqLevC (v v' : Value) (l l' : List (Int × Int)) (w : World) (hA : Lst 2 LevAt w v l) (hB : Lst 2 LevAt w v' l') (hl : l.length ≤ 1000000) (_ : l'.length ≤ 1000000) :
    Calls Tryz.prog 40 #[v, v'] w fun e w' => e = .returned (.bool (decide (l = l'))) ∧ Below w.heap.size w w' := by
  obtain ⟨aa, ca, rfl, _, _, hA⟩ := hA
  obtain ⟨ab, cb, rfl, _, _, hB⟩ := hB
  by_cases hlen : l.length = l'.length
  · have hy := hid (fun h => eqL_yes hlen h)
    have hn := hid (fun k h h' hne => eqL_no (l := l) (l' := l') (k := k) h h' hne)
    have hlz : ((l.length : Int) != (l'.length : Int)) = false := by rw [hlen]; simp
    generalize decide (l = l') = R at *
    go_enter Tryz.func40, Tryz.ntmps40
    go_wp2
    clear hlz
    go_loopw [13] (fun i wr => ∃ k : Nat, k ≤ l.length ∧ i = .int .i64 (k : Int) ∧ Hid (∀ j (h : j < l.length) (h' : j < l'.length), j < k → l[j] = l'[j]) ∧ Hid (Below w.heap.size w wr)) (fun i _ => l.length - (intOf i).toNat)
    case atStart => exact ⟨0, Nat.zero_le _, rfl, hid (fun j _ _ h => absurd h (Nat.not_lt_zero _)), hid (Below.refl _ w)⟩
    case round =>
      obtain ⟨k, hk, rfl, hal, hbl⟩ := hrel
      by_cases hlt : k < l.length
      · have hltz : (k : Int) < (l.length : Int) := by omega
        have hlt2 : k < l'.length := by omega
        have hltz2 : (k : Int) < (l'.length : Int) := by omega
        obtain ⟨b1, o1, rfl, hb1, hc1⟩ := hA k hlt
        obtain ⟨b2, o2, rfl, hb2, hc2⟩ := hB k hlt2
        have hd1 := (hbl.out.cell hb1).trans hc1.1
        have he1 := (hbl.out.cell hb1).trans hc1.2
        have hd2 := (hbl.out.cell hb2).trans hc2.1
        have he2 := (hbl.out.cell hb2).trans hc2.2
        clear hc1 hc2
        clear hA hB
        by_cases he : l[k] = l'[k]
        · have hnx : Hid (∀ j (h : j < l.length) (h' : j < l'.length), j < k + 1 → l[j] = l'[j]) := hid (fun j h h' hj => by
            rcases Nat.lt_or_ge j k with h9 | h9
            · exact hal.out j h h' h9
            · obtain rfl : j = k := by omega
              exact he)
          clear hal hy hn
          have hne := fun u => neqLev l[k] l'[k] u
          rw [decide_eq_true he] at hne
          generalize l[k] = x at *
          generalize l'[k] = y at *
          clear he
          go_wp2_with fail
          go_quiet (fail)
          go_wp2
          go_roundw
          case rel => exact ⟨k + 1, by omega, by go_num, hnx, hid (by first | exact belowN hbl.out | exact belowN (belowN hbl.out))⟩
          case measure => simp [intOf]; omega
        · obtain rfl := hn.out k hlt hlt2 he
          clear hal hy hn
          have hne := fun u => neqLev l[k] l'[k] u
          rw [decide_eq_false he] at hne
          generalize l[k] = x at *
          generalize l'[k] = y at *
          clear he
          go_wp2_with fail
          go_quiet (fail)
          go_wp2
          go_ret
          exact ⟨rfl, by first | exact belowN hbl.out | exact belowN (belowN hbl.out)⟩
      · have hltz : ¬ (k : Int) < (l.length : Int) := by omega
        obtain rfl := hy.out (fun j h h' => hal.out j h h' (by omega))
        clear hA hB hy hn hal
        go_wp2
        go_ret
        exact ⟨rfl, hbl.out⟩
  · have hlz : ((l.length : Int) != (l'.length : Int)) = true := bne_iff_ne.2 (by omega)
    obtain h9 := eqL_len (l := l) (l' := l') hlen
    rw [h9]
    clear hA hB h9 hlen
    go_enter Tryz.func40, Tryz.ntmps40
    go_wp2
    go_ret
    exact ⟨rfl, Below.refl _ _⟩
set_option maxRecDepth 20000 in
set_option maxHeartbeats 4000000 in
theorem eqCelC (v v' : Value) (l l' : List Cel) (w : World) (hA : Cels w v l) (hB : Cels w v' l') (hl : l.length ≤ 1000000) (_ : l'.length ≤ 1000000) :
    Calls Tryz.prog 58 #[v, v'] w fun e w' => e = .returned (.bool (decide (l = l'))) ∧ Below w.heap.size w w' := by
  obtain ⟨aa, ca, rfl, _, _, _, hA⟩ := hA
  obtain ⟨ab, cb, rfl, _, _, _, hB⟩ := hB
  by_cases hlen : l.length = l'.length
  · have hy := hid (fun h => eqL_yes hlen h)
    have hn := hid (fun k h h' hne => eqL_no (l := l) (l' := l') (k := k) h h' hne)
    have hlz : ((l.length : Int) != (l'.length : Int)) = false := by rw [hlen]; simp
    generalize decide (l = l') = R at *
    go_enter Tryz.func58, Tryz.ntmps58
    go_wp2
    clear hlz
    go_loopw [13] (fun i wr => ∃ k : Nat, k ≤ l.length ∧ i = .int .i64 (k : Int) ∧ Hid (∀ j (h : j < l.length) (h' : j < l'.length), j < k → l[j] = l'[j]) ∧ Hid (Below w.heap.size w wr)) (fun i _ => l.length - (intOf i).toNat)
    case atStart => exact ⟨0, Nat.zero_le _, rfl, hid (fun j _ _ h => absurd h (Nat.not_lt_zero _)), hid (Below.refl _ w)⟩
    case round =>
      obtain ⟨k, hk, rfl, hal, hbl⟩ := hrel
      by_cases hlt : k < l.length
      · have hltz : (k : Int) < (l.length : Int) := by omega
        have hlt2 : k < l'.length := by omega
        have hltz2 : (k : Int) < (l'.length : Int) := by omega
        obtain ⟨b1, o1, rfl, hb1, hc1⟩ := hA k hlt
        obtain ⟨b2, o2, rfl, hb2, hc2⟩ := hB k hlt2
        have hc1 := At5.keep2 hc1 hbl.out hb1
        have hc2 := At5.keep2 hc2 hbl.out hb2
        obtain ⟨x0, x1, x2, x3, x4⟩ := hc1
        obtain ⟨y0, y1, y2, y3, y4⟩ := hc2
        clear hA hB
        by_cases he : l[k] = l'[k]
        · have hnx : Hid (∀ j (h : j < l.length) (h' : j < l'.length), j < k + 1 → l[j] = l'[j]) := hid (fun j h h' hj => by
            rcases Nat.lt_or_ge j k with h9 | h9
            · exact hal.out j h h' h9
            · obtain rfl : j = k := by omega
              exact he)
          clear hal hy hn
          have hne := fun u => neqCel l[k] l'[k] u
          rw [decide_eq_true he] at hne
          generalize l[k] = x at *
          generalize l'[k] = y at *
          clear he
          go_wp2_with fail
          go_quiet (fail)
          go_wp2
          go_roundw
          case rel => exact ⟨k + 1, by omega, by go_num, hnx, hid (by first | exact belowN hbl.out | exact belowN (belowN hbl.out))⟩
          case measure => simp [intOf]; omega
        · obtain rfl := hn.out k hlt hlt2 he
          clear hal hy hn
          have hne := fun u => neqCel l[k] l'[k] u
          rw [decide_eq_false he] at hne
          generalize l[k] = x at *
          generalize l'[k] = y at *
          clear he
          go_wp2_with fail
          go_quiet (fail)
          go_wp2
          go_ret
          exact ⟨rfl, by first | exact belowN hbl.out | exact belowN (belowN hbl.out)⟩
      · have hltz : ¬ (k : Int) < (l.length : Int) := by omega
        obtain rfl := hy.out (fun j h h' => hal.out j h h' (by omega))
        clear hA hB hy hn hal
        go_wp2
        go_ret
        exact ⟨rfl, hbl.out⟩
  · have hlz : ((l.length : Int) != (l'.length : Int)) = true := bne_iff_ne.2 (by omega)
    obtain h9 := eqL_len (l := l) (l' := l') hlen
    rw [h9]
    clear hA hB h9 hlen
    go_enter Tryz.func58, Tryz.ntmps58
    go_wp2
    go_ret
    exact ⟨rfl, Below.refl _ _⟩

end Go.Proofs.YtcledgljbmepaaaGreatDoor
namespace Go.Proofs.YtcledgljbmepaaaGreatDoor
open Go.RowKit Go.Maps

abbrev gmA (rv nv lv pv : Value) (s : Int) : Value := .agg #[rv, nv, lv, pv, .int .i64 s]
set_option maxRecDepth 20000 in
theorem Tryz.infoTx : (Tryz.prog.info? 9).map (fun i => (i.zero, i.size, i.bytes)) = some (some (.string ⟨#[]⟩), 1, 16) := by kernel_rfl
/-- texts of the call's own -/
abbrev OwnT (w : World) (B : Nat) (v : Value) (l : List Txt) : Prop := w.ownsRow B 9 1 v l.length (l.map fun t => .string (strT t))
theorem txt_news {w : World} {ad : Addr} {n c : Nat} {l : List Txt} (h : Lst 1 TxtAt w (.slice (some ad) n c) l) : ∀ j u, (l.map fun t => Value.string (strT t))[j]? = some u → w.cell? (ad.add j) = some u := by
  intro j u hu
  have hj : j < l.length := by
    rcases Nat.lt_or_ge j l.length with h1 | h1
    · exact h1
    · rw [List.getElem?_eq_none (by rw [List.length_map]; exact h1)] at hu; cases hu
  obtain ⟨b, o, e, _, x⟩ := h.at hj
  injection e with e
  subst e
  have ea : (⟨b, o, none⟩ : Addr).add j = ⟨b, o + j * 1, none⟩ := by simp [Addr.add]
  rw [ea, ← hu, List.getElem?_map, List.getElem?_eq_getElem hj]
  exact x
theorem OwnT.at {w : World} {B : Nat} {a : Option Addr} {n c : Nat} {l : List Txt} (h : OwnT w B (.slice a n c) l) {j : Nat} (hj : j < l.length) : ∃ g, a = some ⟨g, 0, none⟩ ∧ w.cell? ⟨g, j, none⟩ = some (.string (strT (l.getD j []))) := by
  obtain ⟨g, c', e', _⟩ := own_form3 h (show 0 < l.length by omega)
  injection e' with e1 e2 e3
  subst e1 e2
  refine ⟨g, rfl, ?_⟩
  have ho : w.ownsRow B 9 1 (.slice (some ⟨g, 0, none⟩) l.length c) l.length (l.map fun t => .string (strT t)) := h
  have h1 := ho.cellAt j (by omega)
  rw [h1, List.getElem?_map, List.getElem?_eq_getElem hj, List.getD_eq_getElem?_getD, List.getElem?_eq_getElem hj]
  rfl
set_option maxRecDepth 20000 in
theorem wp_appT {ops : Array Oper} {rest : List Oper} {o : Oper} {a : Act} {Q : Exit → Act → World → Prop} (w : World) (hgd : o.guard = none) (s x : Operand)
    (ho : o.op = .call { callee := .builtin .append, args := #[s, x], argTypes := #[24, 24] })
    (B : Nat) (l1 l2 : List Txt) (v vx : Value) (hs : a.eval s = v) (hx : a.eval x = vx) (hown : OwnT w B v l1) (hN : Lst 1 TxtAt w vx l2) (hl : (l1.length + l2.length) * 16 ≤ 140737488355328) (hB : B ≤ w.heap.size)
    (h : ∀ v' w', OwnT w' B v' (l1 ++ l2) → Below B w w' → wpList Tryz.prog ops Q rest (a.put o.dst v') w') : wpList Tryz.prog ops Q (o :: rest) a w := by
  obtain ⟨i0, hi, hz0, hz1, hz2⟩ := info_parts Tryz.infoTx
  obtain ⟨va, vc, rfl⟩ := hN.shape
  cases va with
  | none =>
    have hl0 : l2 = [] := by
      cases l2 with
      | nil => rfl
      | cons x l => obtain ⟨_, _, e, _⟩ := hN.at (j := 0) (Nat.succ_pos _); cases e
    subst hl0
    obtain ⟨_, _, e, _, h0, _⟩ := hN
    injection e with e1 _ e3
    subst e1
    have := h0 rfl
    rw [← e3] at this
    subst this
    refine wpList_append_own_none hgd s x 24 ho B 9 i0 1 Tryz.underlying24 hi v _ _ hs hown hx ?_
    rw [List.append_nil] at h
    exact h v w hown ((Below.refl _ w).mono hB)
  | some ad =>
    refine wpList_append_own w hgd s x 24 ho B 9 i0 (.string ⟨#[]⟩) 1 16 Tryz.underlying24 hi hz0 hz1 hz2 rfl (by decide) v _ _ hs hown ad l2.length vc (l2.map fun t => .string (strT t)) hx (by simp) (txt_news hN) (fun u hu => by
      obtain ⟨t, _, rfl⟩ := List.mem_map.1 hu
      rfl) (by unfold maxLen; omega) hl hB ?_
    intro v' w' hO hg _
    refine h v' w' ?_ (((Below.refl _ w).mono hB).grown hg hB (fun k hk => (hown.lt k hk).1))
    unfold OwnT
    rw [List.map_append, List.length_append]
    exact hO
end Go.Proofs.YtcledgljbmepaaaGreatDoor
