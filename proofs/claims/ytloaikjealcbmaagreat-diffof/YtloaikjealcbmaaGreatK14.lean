/- Grammars in memory: rules, nonterminals, levels, productions, wherever they lie. Package gram's reader, as a machine: words, rules, names, what is left to be done. topiaryref12.Terms, Name; topiarylaw12.long. topiaryref12.Sym: a name's symbol. -/
import Derived.Test.YtloaikjealcbmaaGreatK13
namespace Go.Proofs.YtloaikjealcbmaaGreat
open Go.RowKit Go.Maps

/-- a slice of things that take sz cells each, wherever it lies -/
def Lst {α : Type} (sz : Nat) (R : World → Nat → Nat → α → Prop) (w : World) (v : Value) (l : List α) : Prop := ∃ a cap, v = .slice a l.length cap ∧ l.length ≤ cap ∧ (a = none → cap = 0) ∧ ∀ j (h : j < l.length), ∃ b o, a = some ⟨b, o, none⟩ ∧ b < w.heap.size ∧ R w b (o + j * sz) l[j]
theorem Lst.keepR {α : Type} {sz : Nat} {R : World → Nat → Nat → α → Prop} {w u : World} {v : Value} {l : List α} (h : Lst sz R w v l) (hs : w.heap.size ≤ u.heap.size) (hR : ∀ b o x, b < w.heap.size → R w b o x → R u b o x) : Lst sz R u v l := by
 obtain ⟨a, cap, e, hc, hn, hat⟩ := h
 refine ⟨a, cap, e, hc, hn, fun j hj => ?_⟩
 obtain ⟨b, o, e1, h1, h2⟩ := hat j hj
 exact ⟨b, o, e1, Nat.lt_of_lt_of_le h1 hs, hR _ _ _ h1 h2⟩
theorem Lst.shape {α : Type} {sz : Nat} {R : World → Nat → Nat → α → Prop} {w : World} {v : Value} {l : List α} (h : Lst sz R w v l) : ∃ a c, v = .slice a l.length c := by obtain ⟨a, c, e, _⟩ := h; exact ⟨a, c, e⟩
theorem Lst.at {α : Type} {sz : Nat} {R : World → Nat → Nat → α → Prop} {w : World} {a : Option Addr} {n c : Nat} {l : List α} (h : Lst sz R w (.slice a n c) l) {j : Nat} (hj : j < l.length) : ∃ b o, a = some ⟨b, o, none⟩ ∧ b < w.heap.size ∧ R w b (o + j * sz) l[j] := by
 obtain ⟨a', c', e, _, _, hat⟩ := h
 injection e with e1 _ _
 subst e1
 exact hat j hj
theorem Lst.nil {α : Type} {sz : Nat} {R : World → Nat → Nat → α → Prop} (w : World) : Lst sz R w (.slice none 0 0) [] := ⟨none, 0, rfl, Nat.le_refl _, fun _ => rfl, fun _ hj => absurd hj (Nat.not_lt_zero _)⟩

/-- a token rule, a production, a grammar -/
structure Rl where
 name : Txt
 re : List Cel
 skip : Bool
structure Pd where
 left : Int
 right : List Int
 prec : Int
structure Gm where
 rules : List Rl
 nonts : List Txt
 levels : List (Int × Int)
 prods : List Pd
 start : Int
def RuleAt (w : World) (b o : Nat) (r : Rl) : Prop := ∃ v, w.cell? ⟨b, o, none⟩ = some (.string (strT r.name)) ∧ w.cell? ⟨b, o + 1, none⟩ = some v ∧ w.cell? ⟨b, o + 2, none⟩ = some (.bool r.skip) ∧ Cels w v r.re
def TxtAt (w : World) (b o : Nat) (t : Txt) : Prop := w.cell? ⟨b, o, none⟩ = some (.string (strT t))
def LevAt (w : World) (b o : Nat) (p : Int × Int) : Prop := w.cell? ⟨b, o, none⟩ = some (.int .i64 p.1) ∧ w.cell? ⟨b, o + 1, none⟩ = some (.int .i64 p.2)
def ProdAt (w : World) (b o : Nat) (p : Pd) : Prop := ∃ v, w.cell? ⟨b, o, none⟩ = some (.int .i64 p.left) ∧ w.cell? ⟨b, o + 1, none⟩ = some v ∧ w.cell? ⟨b, o + 2, none⟩ = some (.int .i64 p.prec) ∧ Nums w v p.right
theorem RuleAt.keep {w u : World} {b o : Nat} {r : Rl} (h : RuleAt w b o r) (hu : Below w.heap.size w u) : RuleAt u b o r := by
 obtain ⟨v, h0, h1, h2, h3⟩ := h
 exact ⟨v, keep_cell hu h0, keep_cell hu h1, keep_cell hu h2, h3.keep hu⟩
theorem ProdAt.keep {w u : World} {b o : Nat} {p : Pd} (h : ProdAt w b o p) (hu : Below w.heap.size w u) : ProdAt u b o p := by
 obtain ⟨v, h0, h1, h2, h3⟩ := h
 exact ⟨v, keep_cell hu h0, keep_cell hu h1, keep_cell hu h2, h3.keep hu⟩
structure GmV (w : World) (rv nv lv pv : Value) (g : Gm) : Prop where
 rules : Lst 3 RuleAt w rv g.rules
 nonts : Lst 1 TxtAt w nv g.nonts
 levels : Lst 2 LevAt w lv g.levels
 prods : Lst 3 ProdAt w pv g.prods
theorem GmV.keep {w u : World} {rv nv lv pv : Value} {g : Gm} (h : GmV w rv nv lv pv g) (hu : Below w.heap.size w u) : GmV u rv nv lv pv g :=
 ⟨h.rules.keepR hu.size fun _ _ _ _ h => h.keep hu, h.nonts.keepR hu.size fun _ _ _ _ h => keep_cell hu h, h.levels.keepR hu.size fun _ _ _ _ h => ⟨keep_cell hu h.1, keep_cell hu h.2⟩, h.prods.keepR hu.size fun _ _ _ _ h => h.keep hu⟩
/-- how many of the first k rules are no skip rules -/
def trmK (l : List Rl) (k : Nat) : Nat := ((l.take k).filter fun r => !r.skip).length
theorem trmK_succ {l : List Rl} {k : Nat} (hk : k < l.length) : trmK l (k + 1) = trmK l k + (if l[k].skip then 0 else 1) := by
 unfold trmK
 rw [List.take_add_one, List.getElem?_eq_getElem hk, Option.toList_some, List.filter_append, List.length_append]
 cases h : l[k].skip <;> simp [h]
theorem trmK_le (l : List Rl) (k : Nat) : trmK l k ≤ k := Nat.le_trans (List.length_filter_le _ _) (by rw [List.length_take]; omega)
def Gm.terms (g : Gm) : Nat := trmK g.rules g.rules.length
/-- all names, the end's first -/
def nmsK (l : List Rl) (k : Nat) : List Txt := [36] :: ((l.take k).filter fun r => !r.skip).map Rl.name
theorem nmsK_len (l : List Rl) (k : Nat) : (nmsK l k).length = trmK l k + 1 := by unfold nmsK trmK; simp
theorem nmsK_succ {l : List Rl} {k : Nat} (hk : k < l.length) : nmsK l (k + 1) = nmsK l k ++ (if l[k].skip then [] else [l[k].name]) := by
 unfold nmsK
 rw [List.take_add_one, List.getElem?_eq_getElem hk, Option.toList_some, List.filter_append, List.map_append]
 cases h : l[k].skip <;> simp [h]
def Gm.names (g : Gm) : List Txt := nmsK g.rules g.rules.length ++ g.nonts
def Gm.name (g : Gm) (s : Int) : Txt := if s < 0 then [] else g.names.getD s.toNat []

end Go.Proofs.YtloaikjealcbmaaGreat
namespace Go.Proofs.YtloaikjealcbmaaGreat

def kTok : Txt := [116, 111, 107, 101, 110]
def kSkip : Txt := [115, 107, 105, 112]
def kStart : Txt := [115, 116, 97, 114, 116]
def kLeft : Txt := [108, 101, 102, 116]
def kRight : Txt := [114, 105, 103, 104, 116]
def kNone : Txt := [110, 111, 110, 101]
/-- the side that a word gives -/
def sdN (t : Txt) : Nat := if t = kLeft then 1 else if t = kRight then 2 else if t = kNone then 3 else 0
def kwB (t : Txt) : Bool := decide (t = kTok) || decide (t = kSkip) || decide (t = kStart) || decide (0 < sdN t)
theorem sdN_le (t : Txt) : sdN t ≤ 3 := by unfold sdN; split <;> (try split) <;> (try split) <;> omega
/-- what regex.Parse answers: cells, and an error -/
def rxA (t : Txt) : List Cel × Int := if 200 < t.length then ([], 3) else match rowsP t with
 | some (r, []) => if 60 < (post r).length then ([], 3) else (post r, 0)
 | _ => ([], 1)
/-- what a word leaves to be done: 1 once, 2 a level (power, side), 3 start (1: a second one), 4 its name, 5 a symbol (of which production), 6 behind % -/
structure Stp where
 k : Nat
 w : Wd
 a : Nat
 b : Nat
/-- the reader -/
structure RS where
 ws : List Wd
 rules : List Rl
 nonts : List Txt
 prods : List Nat
 levels : Nat
 starts : Nat
 skips : List Wd
 terms : List Wd
 nons : List Wd
 later : List Stp
 pl : Nat
 err : Int
def RS.hd (st : RS) : Wd := st.ws.headD (0, 0, [])
def RS.give (st : RS) (p : Nat) (e : Int) : RS := if st.err = 0 then { st with pl := p, err := e } else st
def RS.take (st : RS) (may : Bool) : RS := if may then { st with ws := st.ws.tail } else st.give st.hd.2.1 1
def RS.atN (st : RS) : Bool := decide (st.hd.1 = 1) && !kwB st.hd.2.2
def RS.atS (st : RS) (t : Txt) : Bool := decide (st.hd.1 = 3) && decide (st.hd.2.2 = t)
def RS.tkN (st : RS) : RS := st.take st.atN
def RS.tkS (st : RS) (t : Txt) : RS := st.take (st.atS t)
def RS.thn (st : RS) (s : Stp) : RS := { st with later := st.later ++ [s] }
def RS.once (st : RS) (w : Wd) : RS := st.thn ⟨1, w, 0, 0⟩
def RS.fail (st : RS) (p : Nat) (e : Int) : RS := if e = 0 then st else st.give p e
def RS.cells (st : RS) : RS := (st.take (decide (st.hd.1 = 2))).fail st.hd.2.1 (rxA st.hd.2.2).2
def RS.full (st : RS) (b : Bool) (p : Nat) : RS := if b then st.give p 3 else st
def RS.addR (st : RS) (r : Rl) : RS := { st with rules := st.rules ++ [r] }
def RS.addW (st : RS) (w : Wd) (sk : Bool) : RS := if sk then { st with skips := st.skips ++ [w] } else { st with terms := st.terms ++ [w] }
def RS.addN (st : RS) (t : Txt) : RS := { st with nonts := st.nonts ++ [t] }
def RS.addO (st : RS) (w : Wd) : RS := { st with nons := st.nons ++ [w] }
def RS.addP (st : RS) : RS := { st with prods := st.prods ++ [st.nonts.length] }
def RS.rule2 (st : RS) (f w : Wd) : RS :=
 ((((st.cells.tkS [59]).addR ⟨w.2.2, (rxA st.hd.2.2).1, decide (f.2.2 = kSkip)⟩).addW w (decide (f.2.2 = kSkip))).once w)
def RS.rule1 (st : RS) : RS := (st.take true).full (decide (st.rules.length = 16)) st.hd.2.1
def RS.rule (st : RS) : RS := st.rule1.tkN.rule2 st.hd st.rule1.hd
def RS.lvd (st : RS) (p s : Nat) : RS := st.tkN.thn ⟨2, st.hd, p, s⟩
def RS.lvds (p s : Nat) : Nat → RS → RS
 | 0, st => st
 | n + 1, st => if st.atN then RS.lvds p s n (st.lvd p s) else st
def RS.lv1 (st : RS) : RS := { st with levels := st.levels + 1 }
def RS.level (st : RS) : RS := let s3 := (st.lv1.take true).lvd (st.levels + 1) (sdN st.hd.2.2)
 (RS.lvds (st.levels + 1) (sdN st.hd.2.2) s3.ws.length s3).tkS [59]
def RS.st1 (st : RS) : RS := { st with starts := st.starts + 1 }
def RS.start (st : RS) : RS := let s3 := (st.st1.take true).thn ⟨3, st.hd, if 1 < st.starts + 1 then 1 else 0, 0⟩
 (s3.tkN.tkS [59]).thn ⟨4, s3.hd, 0, 0⟩
def RS.inA (st : RS) : Bool := st.atN || (st.atS [37] || (st.atS [124] || st.atS [59]))
def RS.symb (st : RS) (pr : Nat) : RS := st.tkN.thn ⟨5, st.hd, pr, 0⟩
def RS.prec (st : RS) (pr : Nat) : RS := st.tkN.thn ⟨6, st.hd, pr, 0⟩
def RS.syms (pr : Nat) : Nat → Nat → RS → RS
 | 0, _, st => st
 | f + 1, n, st => if st.atN then RS.syms pr f (n + 1) ((st.full (decide (n = 8)) st.hd.2.1).symb pr) else st
def RS.pct (st : RS) (pr : Nat) : RS := if st.atS [37] then (st.tkS [37]).prec pr else st
def RS.alt1 (st : RS) : RS := (st.full (decide (st.prods.length = 40) && st.inA) st.hd.2.1).addP
def RS.alt (st : RS) : RS := (RS.syms st.prods.length st.alt1.ws.length 0 st.alt1).pct st.prods.length
def RS.alts : Nat → RS → RS
 | 0, st => st
 | f + 1, st => if st.atS [124] then RS.alts f (st.tkS [124]).alt else st
def RS.nont1 (st : RS) : RS := (((((st.tkN.full (decide (st.nonts.length = 16)) st.hd.2.1).tkS [58]).addN st.hd.2.2).addO st.hd).once st.hd).alt
def RS.nont (st : RS) : RS := (RS.alts st.nont1.ws.length st.nont1).tkS [59]
def RS.item (st : RS) : RS := if st.hd.1 ≠ 1 then st.give st.hd.2.1 1 else if st.hd.2.2 = kTok ∨ st.hd.2.2 = kSkip then st.rule else if st.hd.2.2 = kStart then st.start else if 0 < sdN st.hd.2.2 then st.level else st.nont
def RS.items : Nat → RS → RS
 | 0, st => st
 | f + 1, st => if st.err = 0 ∧ st.hd.1 ≠ 0 then RS.items f st.item else st
def RS.init (ws : List Wd) : RS := ⟨ws, [], [], [], 0, 0, [], [], [], [], 0, 0⟩
/-- who has a name: where it is first told, which terminal, which nonterminal -/
abbrev Ow := Nat × Nat × Nat
def ownA (o : Option Ow) (p t n : Nat) : Ow := match o with
 | none => (p, t, n)
 | some (a, t', n') => (if p < a then p else a, max t' t, max n' n)
def ownM (M : Txt → Option Ow) (w : Wd) (t n : Nat) : Txt → Option Ow := fun x => if x = w.2.2 then some (ownA (M x) w.2.1 t n) else M x
/-- all that are told, with their numbers -/
def numF (k : Nat) : List Wd → List (Wd × Nat × Nat)
 | [] => []
 | w :: l => (w, k + 1, 0) :: numF (k + 1) l
def numN (k : Nat) : List Wd → List (Wd × Nat × Nat)
 | [] => []
 | w :: l => (w, 0, k + 1) :: numN (k + 1) l
def RS.told (st : RS) : List (Wd × Nat × Nat) := st.skips.map (fun w => (w, 0, 0)) ++ (numF 0 st.terms ++ numN st.terms.length st.nons)
def ownL (l : List (Wd × Nat × Nat)) (M : Txt → Option Ow) : Txt → Option Ow := l.foldl (fun M x => ownM M x.1 x.2.1 x.2.2) M
def RS.fnd (st : RS) (t : Txt) : Ow := (ownL st.told (fun _ => none) t).getD (0, 0, 0)
/-- what is made of a grammar when all names are known -/
structure FS where
 levels : List (Int × Int)
 prods : List Pd
 start : Int
 pl : Nat
 err : Int
def modP (l : List Pd) (k : Nat) (f : Pd → Pd) : List Pd := match l[k]? with
 | some p => l.set k (f p)
 | none => l
def stpF (F : Txt → Ow) (s : Stp) (f : FS) : FS × Int :=
 if s.k = 1 then (f, if (F s.w.2.2).1 < s.w.2.1 then 6 else 0)
 else if s.k = 2 then (if (F s.w.2.2).2.1 = 0 then (f, 5) else if 0 < (f.levels.getD (F s.w.2.2).2.1 (0, 0)).1 then (f, 6) else ({ f with levels := f.levels.set (F s.w.2.2).2.1 ((s.a : Int), (s.b : Int)) }, 0))
 else if s.k = 3 then (f, if s.a = 0 then 0 else 6)
 else if s.k = 4 then ({ f with start := ((F s.w.2.2).2.2 : Int) }, if (F s.w.2.2).2.2 = 0 then 5 else 0)
 else if s.k = 5 then (if 0 < (F s.w.2.2).2.1 then ({ f with prods := modP f.prods s.a fun p => ⟨p.left, p.right ++ [((F s.w.2.2).2.1 : Int)], ((F s.w.2.2).2.1 : Int)⟩ }, 0) else if 0 < (F s.w.2.2).2.2 then ({ f with prods := modP f.prods s.a fun p => ⟨p.left, p.right ++ [((F s.w.2.2).2.2 : Int)], p.prec⟩ }, 0) else (f, 5))
 else if (F s.w.2.2).2.1 = 0 then (f, 5) else ({ f with prods := modP f.prods s.a fun p => ⟨p.left, p.right, ((F s.w.2.2).2.1 : Int)⟩ }, 0)
def FS.fail (f : FS) (p : Nat) (e : Int) : FS := if e = 0 then f else { f with pl := p, err := e }
def setL (F : Txt → Ow) : List Stp → FS → FS
 | [], f => f
 | s :: l, f => if f.err ≠ 0 then f else setL F l ((stpF F s f).1.fail s.w.2.1 (stpF F s f).2)
def RS.trm (st : RS) : Nat := trmK st.rules st.rules.length
def RS.fs (st : RS) : FS := ⟨List.replicate (st.trm + 1) (0, 0), st.prods.map fun (l : Nat) => ⟨(l : Int) + (st.trm : Int), [], 0⟩, if 0 < st.nonts.length then (st.trm : Int) + 1 else 0, st.pl, st.err⟩
def RS.settle (st : RS) : FS := setL st.fnd st.later st.fs
def wsE (s : Txt) : List Wd := (wrdA s).1 ++ [(0, s.length, [])]
def rdS (s : Txt) : RS := RS.items (wsE s).length (RS.init (wsE s))
def prsG (s : Txt) : Gm := ⟨(rdS s).rules, (rdS s).nonts, (rdS s).settle.levels, (rdS s).settle.prods, (rdS s).settle.start⟩
def prsE (s : Txt) : Nat × Int := if (wrdA s).2.2 = 0 then ((rdS s).settle.pl, (rdS s).settle.err) else (wrdA s).2
def prs (s : Txt) : Option Gm := if (prsE s).2 = 0 then some (prsG s) else none

end Go.Proofs.YtloaikjealcbmaaGreat
namespace Go.Proofs.YtloaikjealcbmaaGreat
open Go.RowKit Go.Maps

abbrev gmA (rv nv lv pv : Value) (s : Int) : Value := .agg #[rv, nv, lv, pv, .int .i64 s]
set_option maxRecDepth 20000 in
set_option maxHeartbeats 1000000 in
theorem refTermsC (rv nv lv pv : Value) (g : Gm) (w : World) (h : GmV w rv nv lv pv g) (hl : g.rules.length ≤ 1000000) :
 Calls Tryz.prog 35 #[gmA rv nv lv pv g.start] w fun e w' => e = .returned (.int .i64 (g.terms : Int)) ∧ Below w.heap.size w w' := by
 have hR := hid h.rules
 obtain ⟨a, c, rfl⟩ := h.rules.shape
 obtain ⟨na, nc, rfl⟩ := h.nonts.shape
 obtain ⟨la, lc, rfl⟩ := h.levels.shape
 obtain ⟨pa, pc, rfl⟩ := h.prods.shape
 unfold Gm.terms
 clear h
 obtain ⟨st, hst⟩ : ∃ x, g.start = x := ⟨_, rfl⟩
 rw [hst]
 generalize g.nonts.length = nn
 generalize g.levels.length = ll
 generalize g.prods.length = pp
 generalize g.rules = R at *
 obtain ⟨n, hnn⟩ : ∃ n, Hid (R.length = n) := ⟨_, hid rfl⟩
 obtain ⟨RR, hRR⟩ : ∃ x, Hid (trmK R R.length = x) := ⟨_, hid rfl⟩
 rw [hRR.out]
 rw [hnn.out] at hl hR hRR ⊢
 obtain ⟨W1, hW1⟩ : ∃ x, w.alloc (.cells #[.slice a n c, .slice na nn nc, .slice la ll lc, .slice pa pp pc, .int .i64 st] 27) = x := ⟨_, rfl⟩
 have hB1 : Hid (Below w.heap.size w W1) := by rw [← hW1]; exact hid (al' w _)
 have hk1 : Hid (W1.heap[w.heap.size]? = some (.cells #[.slice a n c, .slice na nn nc, .slice la ll lc, .slice pa pp pc, .int .i64 st] 27)) := by rw [← hW1]; exact hid (heap_new w _)
 have y0 : W1.cell? ⟨w.heap.size, 0, none⟩ = some (.slice a n c) := blk_cell hk1.out rfl
 have hR1 := hid (hR.out.keepR hB1.out.size fun _ _ _ _ h => h.keep hB1.out)
 clear hR hk1
 go_enter Tryz.func35, Tryz.ntmps35
 go_wp2
 clear hW1
 go_loopw [3, 4] (fun x i wr => ∃ k : Nat, k ≤ n ∧ i = .int .i64 (k : Int) ∧ x = .int .i64 (trmK R k : Int) ∧ wr = W1) (fun _ i _ => n - (intOf i).toNat)
 case atStart => exact ⟨0, Nat.zero_le _, rfl, rfl, rfl⟩
 case round =>
  obtain ⟨k, hk, rfl, rfl, rfl⟩ := hrel
  by_cases hlt : k < n
  · have hltz : (k : Int) < (n : Int) := by omega
    have hkl : k < R.length := by rw [hnn.out]; exact hlt
    obtain ⟨b, o, he, -, v, -, -, x2, -⟩ := hR1.out.at hkl
    subst he
    have hs := trmK_succ hkl
    have hle := trmK_le R k
    obtain ⟨t0, ht0⟩ : ∃ x, trmK R k = x := ⟨_, rfl⟩
    rw [ht0] at hs hle ⊢
    clear ht0
    cases hsk : R[k].skip with
    | true =>
     rw [hsk] at x2 hs
     rw [if_pos rfl, Nat.add_zero] at hs
     have hsH := hid hs
     clear hs
     go_wp2
     go_roundw
     case rel => exact ⟨k + 1, by omega, by go_num, by rw [hsH.out]; rfl, trivial⟩
     case measure => simp [intOf]; omega
    | false =>
     rw [hsk] at x2 hs
     rw [if_neg (by decide)] at hs
     have hsH := hid hs
     clear hs
     go_wp2
     go_roundw
     case rel => exact ⟨k + 1, by omega, by go_num, by rw [hsH.out]; go_num, trivial⟩
     case measure => simp [intOf]; omega
  · have hltz : ¬ (k : Int) < (n : Int) := by omega
    obtain rfl : k = n := by omega
    rw [hRR.out]
    go_wp2
    go_ret
    exact ⟨rfl, hB1.out⟩

set_option maxRecDepth 20000 in
theorem Tryz.infoTx : (Tryz.prog.info? 9).map (fun i => (i.zero, i.size, i.bytes)) = some (some (.string ⟨#[]⟩), 1, 16) := by kernel_rfl
/-- texts of the call's own -/
abbrev OwnT (w : World) (B : Nat) (v : Value) (l : List Txt) : Prop := w.ownsRow B 9 1 v l.length (l.map fun t => .string (strT t))
theorem txt_one (w : World) (x : Txt) : Lst 1 TxtAt (w.alloc (.cells #[.string (strT x)] 9)) (.slice (some ⟨w.heap.size, 0, none⟩) 1 1) [x] :=
 ⟨_, 1, rfl, Nat.le_refl _, fun h => (by cases h), fun j hj => ⟨_, 0, rfl, by rw [World.size_alloc]; omega, by
  obtain rfl : j = 0 := by simpa using hj
  exact blk_cell (heap_new w _) rfl⟩⟩
theorem txt_news {w : World} {ad : Addr} {n c : Nat} {l : List Txt} (h : Lst 1 TxtAt w (.slice (some ad) n c) l) : ∀ j u, (l.map fun t => Value.string (strT t))[j]? = some u → w.cell? (ad.add j) = some u := by
 intro j u hu
 have hj : j < l.length := by
  rcases Nat.lt_or_ge j l.length with h1 | h1
  · exact h1
  · rw [List.getElem?_eq_none (by rw [List.length_map]; exact h1)] at hu; cases hu
 obtain ⟨b, o, e, _, x⟩ := h.at hj
 injection e with e
 subst e
 have ea : (⟨b, o, none⟩ : Addr).add j = ⟨b, o + j * 1, none⟩ := by simp [Addr.add]
 rw [ea, ← hu, List.getElem?_map, List.getElem?_eq_getElem hj]
 exact x
theorem OwnT.at {w : World} {B : Nat} {a : Option Addr} {n c : Nat} {l : List Txt} (h : OwnT w B (.slice a n c) l) {j : Nat} (hj : j < l.length) : ∃ g, a = some ⟨g, 0, none⟩ ∧ w.cell? ⟨g, j, none⟩ = some (.string (strT (l.getD j []))) := by
 obtain ⟨g, c', e', _⟩ := own_form3 h (show 0 < l.length by omega)
 injection e' with e1 e2 e3
 subst e1 e2
 refine ⟨g, rfl, ?_⟩
 have ho : w.ownsRow B 9 1 (.slice (some ⟨g, 0, none⟩) l.length c) l.length (l.map fun t => .string (strT t)) := h
 have h1 := ho.cellAt j (by omega)
 rw [h1, List.getElem?_map, List.getElem?_eq_getElem hj, List.getD_eq_getElem?_getD, List.getElem?_eq_getElem hj]
 rfl
set_option maxRecDepth 20000 in
theorem wp_appT {ops : Array Oper} {rest : List Oper} {o : Oper} {a : Act} {Q : Exit → Act → World → Prop} (w : World) (hgd : o.guard = none) (s x : Operand)
 (ho : o.op = .call { callee := .builtin .append, args := #[s, x], argTypes := #[23, 23] })
 (B : Nat) (l1 l2 : List Txt) (v vx : Value) (hs : a.eval s = v) (hx : a.eval x = vx) (hown : OwnT w B v l1) (hN : Lst 1 TxtAt w vx l2) (hl : (l1.length + l2.length) * 16 ≤ 140737488355328) (hB : B ≤ w.heap.size)
 (h : ∀ v' w', OwnT w' B v' (l1 ++ l2) → Below B w w' → wpList Tryz.prog ops Q rest (a.put o.dst v') w') : wpList Tryz.prog ops Q (o :: rest) a w := by
 obtain ⟨i0, hi, hz0, hz1, hz2⟩ := info_parts Tryz.infoTx
 obtain ⟨va, vc, rfl⟩ := hN.shape
 cases va with
 | none =>
  have hl0 : l2 = [] := by
   cases l2 with
   | nil => rfl
   | cons x l => obtain ⟨_, _, e, _⟩ := hN.at (j := 0) (Nat.succ_pos _); cases e
  subst hl0
  obtain ⟨_, _, e, _, h0, _⟩ := hN
  injection e with e1 _ e3
  subst e1
  have := h0 rfl
  rw [← e3] at this
  subst this
  refine wpList_append_own_none hgd s x 23 ho B 9 i0 1 Tryz.underlying23 hi v _ _ hs hown hx ?_
  rw [List.append_nil] at h
  exact h v w hown ((Below.refl _ w).mono hB)
 | some ad =>
  refine wpList_append_own w hgd s x 23 ho B 9 i0 (.string ⟨#[]⟩) 1 16 Tryz.underlying23 hi hz0 hz1 hz2 rfl (by decide) v _ _ hs hown ad l2.length vc (l2.map fun t => .string (strT t)) hx (by simp) (txt_news hN) (fun u hu => by
   obtain ⟨t, _, rfl⟩ := List.mem_map.1 hu
   rfl) (by unfold maxLen; omega) hl hB ?_
  intro v' w' hO hg _
  refine h v' w' ?_ (((Below.refl _ w).mono hB).grown hg hB (fun k hk => (hown.lt k hk).1))
  unfold OwnT
  rw [List.map_append, List.length_append]
  exact hO
set_option maxRecDepth 20000 in
set_option maxHeartbeats 2000000 in
theorem refNameC (rv nv lv pv : Value) (g : Gm) (s : Int) (w : World) (h : GmV w rv nv lv pv g) (hl : g.rules.length ≤ 1000000) (hl2 : g.nonts.length ≤ 1000000) :
 Calls Tryz.prog 32 #[gmA rv nv lv pv g.start, .int .i64 s] w fun e w' => e = .returned (.string (strT (g.name s))) ∧ Below w.heap.size w w' := by
 have hR := hid h.rules
 have hT := hid h.nonts
 obtain ⟨a, c, rfl⟩ := h.rules.shape
 obtain ⟨na, nc, rfl⟩ := h.nonts.shape
 obtain ⟨la, lc, rfl⟩ := h.levels.shape
 obtain ⟨pa, pc, rfl⟩ := h.prods.shape
 obtain ⟨RR, hRR⟩ : ∃ x, Hid (strT (g.name s) = x) := ⟨_, hid rfl⟩
 rw [hRR.out]
 have hRn : Hid (∀ A : List Txt, A = nmsK g.rules g.rules.length ++ g.nonts → strT (if s < 0 then [] else A.getD s.toNat []) = RR) := hid (fun A hA => by subst hA; exact hRR.out)
 clear h hRR
 obtain ⟨st, hst⟩ : ∃ x, g.start = x := ⟨_, rfl⟩
 rw [hst]
 clear hst
 generalize g.levels.length = ll
 generalize g.prods.length = pp
 generalize g.rules = R at *
 generalize g.nonts = T at *
 obtain ⟨n, hnn⟩ : ∃ n, Hid (R.length = n) := ⟨_, hid rfl⟩
 obtain ⟨nn, hnt⟩ : ∃ n, Hid (T.length = n) := ⟨_, hid rfl⟩
 rw [hnn.out] at hl hR hRn ⊢
 rw [hnt.out] at hl2 hT ⊢
 obtain ⟨W1, hW1⟩ : ∃ x, w.alloc (.cells #[.slice a n c, .slice na nn nc, .slice la ll lc, .slice pa pp pc, .int .i64 st] 27) = x := ⟨_, rfl⟩
 have hB1 : Hid (Below w.heap.size w W1) := by rw [← hW1]; exact hid (al' w _)
 have hk1 : Hid (W1.heap[w.heap.size]? = some (.cells #[.slice a n c, .slice na nn nc, .slice la ll lc, .slice pa pp pc, .int .i64 st] 27)) := by rw [← hW1]; exact hid (heap_new w _)
 have y0 : Hid (W1.cell? ⟨w.heap.size, 0, none⟩ = some (.slice a n c)) := hid (blk_cell hk1.out rfl)
 have y1 : Hid (W1.cell? ⟨w.heap.size, 1, none⟩ = some (.slice na nn nc)) := hid (blk_cell hk1.out rfl)
 have hR1 := hid (hR.out.keepR hB1.out.size fun _ _ _ _ h => h.keep hB1.out)
 have hT1 : Hid (Lst 1 TxtAt W1 (.slice na nn nc) T) := hid (hT.out.keepR hB1.out.size fun _ _ _ _ h => keep_cell hB1.out h)
 clear hR hT hk1
 have hO0 : Hid (OwnT (W1.alloc (.cells #[.string (strT [36])] 9)) W1.heap.size (.slice none 0 0) []) := hid (World.ownsRow_nil _ _ _ _)
 have hD := hid (txt_one W1 [36])
 have e36 : (⟨#[36]⟩ : ByteArray) = strT [36] := rfl
 go_enter Tryz.func32, Tryz.ntmps32
 go_wp2_with (at_builtin; refine wp_appT _ rfl _ _ rfl W1.heap.size [] [[36]] _ _ rfl rfl hO0.out hD.out (by simp) (by simp) ?_; intro v2 w2 hO2 hb2; have hO2 := hid hO2; have k2 := hid ((al' W1 _).trans hb2); clear hb2)
 clear hW1
 go_loopw [5, 6] (fun v i wr => ∃ k : Nat, k ≤ n ∧ i = .int .i64 (k : Int) ∧ Hid (OwnT wr W1.heap.size v (nmsK R k)) ∧ Hid (Below W1.heap.size W1 wr)) (fun _ i _ => n - (intOf i).toNat)
 case atStart => exact ⟨0, Nat.zero_le _, rfl, hO2, k2⟩
 case round =>
  obtain ⟨k, hk, rfl, hO, hw⟩ := hrel
  have z0 := keep_cell hw.out y0.out
  have z1 := keep_cell hw.out y1.out
  have hlen : Hid ((nmsK R k).length ≤ 1000001) := hid (by rw [nmsK_len]; have := trmK_le R k; omega)
  by_cases hlt : k < n
  · have hltz : (k : Int) < (n : Int) := by omega
    have hkl : k < R.length := by rw [hnn.out]; exact hlt
    obtain ⟨b, o, he, -, v, x0, -, x2, -⟩ := (hR1.out.keepR hw.out.size fun _ _ _ _ h => h.keep hw.out).at hkl
    subst he
    have hs := nmsK_succ hkl
    cases hsk : R[k].skip with
    | true =>
     rw [hsk] at x2 hs
     rw [if_pos rfl, List.append_nil] at hs
     have hO1 : Hid (OwnT wr W1.heap.size u5 (nmsK R (k + 1))) := by rw [hs]; exact hO
     clear hs hsk hO
     go_wp2
     go_roundw
     case rel => exact ⟨k + 1, by omega, by go_num, hO1, hw⟩
     case measure => simp [intOf]; omega
    | false =>
     rw [hsk] at x2 hs
     rw [if_neg (by decide)] at hs
     have hsH := hid hs
     have hOa : Hid (OwnT (wr.alloc (.cells #[.string (strT R[k].name)] 9)) W1.heap.size u5 (nmsK R k)) := hid (own_below hO.out (al' wr _))
     have hDa := hid (txt_one wr R[k].name)
     have hBa : Hid (W1.heap.size ≤ wr.heap.size) := hid hw.out.size
     clear hs hsk hO
     go_wp2_with (at_builtin; refine wp_appT _ rfl _ _ rfl W1.heap.size (nmsK R k) [R[k].name] _ _ rfl rfl hOa.out hDa.out (by have := hlen.out; simp; omega) (by have := hBa.out; simp; omega) ?_; intro v3 w3 hO3 hb3; have hO4 : Hid (OwnT w3 W1.heap.size v3 (nmsK R (k + 1))) := (by rw [hsH.out]; exact hid hO3); have k3 := hid ((hw.out.trans ((al' wr _).mono hBa.out)).trans hb3); clear hb3 hO3)
     go_roundw
     case rel => exact ⟨k + 1, by omega, by go_num, hO4, k3⟩
     case measure => simp [intOf]; omega
  · have hltz : ¬ (k : Int) < (n : Int) := by omega
    obtain rfl : k = n := by omega
    obtain ⟨A, hA⟩ : ∃ A, Hid (nmsK R k ++ T = A) := ⟨_, hid rfl⟩
    have hR2 := hid (hRn.out A hA.out.symm)
    have hTr := hid (hT1.out.keepR hw.out.size fun _ _ _ _ h => keep_cell hw.out h)
    have hBa : Hid (W1.heap.size ≤ wr.heap.size) := hid hw.out.size
    have hln : Hid (((nmsK R k).length + T.length) * 16 ≤ 140737488355328) := hid (by have := hlen.out; have := hnt.out; omega)
    have hAl : A.length ≤ 2000001 := by rw [← hA.out, List.length_append]; have := hlen.out; have := hnt.out; omega
    clear hRn hT1 hlen hR1 y0 y1 hD hO0
    by_cases h0 : s < 0
    · have hR3 := hR2.out
      rw [if_pos h0] at hR3
      have e0 : Hid ((⟨#[]⟩ : ByteArray) = RR) := hid hR3
      clear hR2 hR3
      go_wp2_with (at_builtin; refine wp_appT _ rfl _ _ rfl W1.heap.size (nmsK R k) T _ _ rfl rfl hO.out hTr.out hln.out hBa.out ?_; intro v3 w3 hO3 hb3; rw [hA.out] at hO3; obtain ⟨va, vc, hve⟩ := own_shape hO3; subst hve; have hO4 := hid hO3; have k3 := hid (hw.out.trans hb3); clear hb3 hO3)
      go_ret
      exact ⟨by rw [← e0.out]; rfl, hB1.out.trans (k3.out.mono hB1.out.size)⟩
    · have hR3 := hR2.out
      rw [if_neg h0] at hR3
      by_cases h1 : s < (A.length : Int)
      · have hcell := hid (fun (u : World) (va : Option Addr) (n9 vc : Nat) (hO9 : OwnT u W1.heap.size (.slice va n9 vc) A) => hO9.at (j := s.toNat) (by omega))
        rw [hR3] at hcell
        obtain ⟨j, rfl⟩ : ∃ j : Nat, s = (j : Int) := ⟨s.toNat, by omega⟩
        rw [Int.toNat_natCast] at hcell
        clear hR2 hR3
        go_wp2_with (at_builtin; refine wp_appT _ rfl _ _ rfl W1.heap.size (nmsK R k) T _ _ rfl rfl hO.out hTr.out hln.out hBa.out ?_; intro v3 w3 hO3 hb3; rw [hA.out] at hO3; obtain ⟨va, vc, hve⟩ := own_shape hO3; subst hve; have hO4 := hid hO3; have k3 := hid (hw.out.trans hb3); obtain ⟨q, hqe, hq⟩ := hcell.out _ _ _ _ hO3; subst hqe; clear hb3 hO3)
        go_ret
        exact ⟨by rfl, hB1.out.trans (k3.out.mono hB1.out.size)⟩
      · have e0 : Hid ((⟨#[]⟩ : ByteArray) = RR) := hid (by rw [← hR3, List.getD_eq_getElem?_getD, List.getElem?_eq_none (by omega)]; rfl)
        clear hR2 hR3
        go_wp2_with (at_builtin; refine wp_appT _ rfl _ _ rfl W1.heap.size (nmsK R k) T _ _ rfl rfl hO.out hTr.out hln.out hBa.out ?_; intro v3 w3 hO3 hb3; rw [hA.out] at hO3; obtain ⟨va, vc, hve⟩ := own_shape hO3; subst hve; have hO4 := hid hO3; have k3 := hid (hw.out.trans hb3); clear hb3 hO3)
        go_ret
        exact ⟨by rw [← e0.out]; rfl, hB1.out.trans (k3.out.mono hB1.out.size)⟩

end Go.Proofs.YtloaikjealcbmaaGreat
namespace Go.Proofs.YtloaikjealcbmaaGreat
open Go.RowKit Go.Maps Go.Sort

def Gm.all (g : Gm) : Nat := g.terms + g.nonts.length
def symFrom (g : Gm) (t : Txt) : Nat → Nat → Nat
 | 0, _ => 0
 | f + 1, i => if g.name (i : Int) = t then i else symFrom g t f (i + 1)
def Gm.sym (g : Gm) (t : Txt) : Nat := symFrom g t g.all 1
theorem symFrom_first {g : Gm} {t : Txt} : ∀ (f i j : Nat), i ≤ j → j < i + f → g.name (j : Int) = t → (∀ k, i ≤ k → k < j → g.name (k : Int) ≠ t) → symFrom g t f i = j
 | 0, i, j, h1, h2, _, _ => by omega
 | f + 1, i, j, h1, h2, h3, h4 => by
  rw [symFrom]
  rcases Nat.lt_or_ge i j with h5 | h5
  · rw [if_neg (h4 i (Nat.le_refl _) h5)]
    exact symFrom_first f (i + 1) j h5 (by omega) h3 (fun k hk hj => h4 k (by omega) hj)
  · obtain rfl : i = j := by omega
    rw [if_pos h3]
/-- a name that no symbol ahead has is its symbol's -/
theorem Gm.sym_of {g : Gm} {j : Nat} (h1 : 1 ≤ j) (h2 : j ≤ g.all) (h : ∀ k, 1 ≤ k → k < j → g.name (k : Int) ≠ g.name (j : Int)) : g.sym (g.name (j : Int)) = j :=
 symFrom_first g.all 1 j h1 (by omega) rfl h
set_option maxRecDepth 20000 in
set_option maxHeartbeats 4000000 in
theorem refSymC (rv nv lv pv : Value) (g : Gm) (t : Txt) (w : World) (h : GmV w rv nv lv pv g) (hl : g.rules.length ≤ 1000000) (hl2 : g.nonts.length ≤ 1000000) :
 Calls Tryz.prog 53 #[gmA rv nv lv pv g.start, .string (strT t)] w fun e w' => e = .returned (.int .i64 (g.sym t : Int)) ∧ Below w.heap.size w w' := by
 have hV := hid h
 obtain ⟨a, c, rfl⟩ := h.rules.shape
 obtain ⟨na, nc, rfl⟩ := h.nonts.shape
 obtain ⟨la, lc, rfl⟩ := h.levels.shape
 obtain ⟨pa, pc, rfl⟩ := h.prods.shape
 have htl := trmK_le g.rules g.rules.length
 obtain ⟨RR, hRR⟩ : ∃ x, Hid (g.sym t = x) := ⟨_, hid rfl⟩
 rw [hRR.out]
 have GT := hid (fun (u : World) (hu : Below w.heap.size w u) => refTermsC _ _ _ _ g u (hV.out.keep hu) hl)
 have GN := hid (fun (j : Int) (u : World) (hu : Below w.heap.size w u) => refNameC _ _ _ _ g j u (hV.out.keep hu) hl hl2)
 clear h hV
 obtain ⟨U, hU⟩ : ∃ x, Hid (strT t = x) := ⟨_, hid rfl⟩
 rw [hU.out]
 have htm : g.terms ≤ 1000000 := Nat.le_trans htl hl
 have hAll : Hid (g.all = g.terms + g.nonts.length) := hid rfl
 have hSt : Hid (symFrom g t (g.all + 1 - 1) 1 = RR) := hid hRR.out
 clear htl hRR
 have hst := hid (fun k (hk : k < g.all + 1) (hI : symFrom g t (g.all + 1 - k) k = RR) => show (if g.name (k : Int) = t then k else symFrom g t (g.all + 1 - (k + 1)) (k + 1)) = RR by
  rw [show g.all + 1 - k = (g.all + 1 - (k + 1)) + 1 by omega, symFrom] at hI
  exact hI)
 have hend : Hid (∀ k, ¬ k < g.all + 1 → symFrom g t (g.all + 1 - k) k = RR → 0 = RR) := hid (fun k hk hI => by rw [show g.all + 1 - k = 0 by omega] at hI; exact hI)
 have hAll2 := hAll.out
 generalize g.all = al at *
 generalize g.terms = tm at *
 generalize g.start = st at *
 obtain ⟨nn, hnn⟩ : ∃ n, Hid (g.nonts.length = n) := ⟨_, hid rfl⟩
 rw [hnn.out] at GT GN hAll2 hl2 ⊢
 generalize g.rules.length = rn at *
 generalize g.levels.length = ll at *
 generalize g.prods.length = pp at *
 obtain ⟨W1, hW1⟩ : ∃ x, w.alloc (.cells #[.slice a rn c, .slice na nn nc, .slice la ll lc, .slice pa pp pc, .int .i64 st] 27) = x := ⟨_, rfl⟩
 have hB1 : Hid (Below w.heap.size w W1) := by rw [← hW1]; exact hid (al' w _)
 have hk1 : Hid (W1.heap[w.heap.size]? = some (.cells #[.slice a rn c, .slice na nn nc, .slice la ll lc, .slice pa pp pc, .int .i64 st] 27)) := by rw [← hW1]; exact hid (heap_new w _)
 clear hAll
 subst al
 go_enter Tryz.func53, Tryz.ntmps53
 go_wp2
 clear hW1
 go_loopw [5] (fun i wr => ∃ k : Nat, 1 ≤ k ∧ k ≤ tm + nn + 1 ∧ i = .int .i64 (k : Int) ∧ Hid (symFrom g t (tm + nn + 1 - k) k = RR) ∧ Hid (Below W1.heap.size W1 wr)) (fun i _ => tm + nn + 1 - (intOf i).toNat)
 case atStart => exact ⟨1, Nat.le_refl _, by omega, rfl, hSt, hid (Below.refl _ _)⟩
 case round =>
  obtain ⟨k, hk1', hk, rfl, hI, hw⟩ := hrel
  have hkr := hid (hs_keep hk1.out hw.out)
  have z0 : wr.cell? ⟨w.heap.size, 0, none⟩ = some (.slice a rn c) := blk_cell hkr.out rfl
  have z1 : wr.cell? ⟨w.heap.size, 1, none⟩ = some (.slice na nn nc) := blk_cell hkr.out rfl
  have z2 : wr.cell? ⟨w.heap.size, 2, none⟩ = some (.slice la ll lc) := blk_cell hkr.out rfl
  have z3 : wr.cell? ⟨w.heap.size, 3, none⟩ = some (.slice pa pp pc) := blk_cell hkr.out rfl
  have z4 : wr.cell? ⟨w.heap.size, 4, none⟩ = some (.int .i64 st) := blk_cell hkr.out rfl
  have y0 := cell_regrown z0
  have y1 := cell_regrown z1
  have y2 := cell_regrown z2
  have y3 := cell_regrown z3
  have y4 := cell_regrown z4
  clear z0 z1 z2 z3 z4
  have hww := hid (bl_step hB1.out hw.out)
  have cA : Hid (∀ d os, Calls Tryz.prog 35 #[gmA (.slice a rn c) (.slice na nn nc) (.slice la ll lc) (.slice pa pp pc) st] (grow (redrawn wr d) os) fun e w'' => e = .returned (.int .i64 (tm : Int)) ∧ ∃ p : Regrown, w'' = grow (redrawn wr p.d) p.os) := hid (fun d os => Calls.regrown_of (GT.out _ (bl_step hww.out (below_regrown wr d os))))
  by_cases hlt : k < tm + nn + 1
  · have hltz : decide ((k : Int) ≤ (tm : Int) + (nn : Int)) = true := decide_eq_true (by omega)
    have hltz2 : (k : Int) ≤ (tm : Int) + (nn : Int) := by omega
    have hst1 := hid (hst.out k hlt hI.out)
    clear hI
    go_wp2_with fail
    refine wp_region_quiet_below (by kernel_rfl) (by kernel_rfl) ?_
    repeat (first | go_big_quiet_step (exact cA.out _ _) | quiet_step (exact cA.out _ _))
    refine wpQuiet_nil ?_
    intro _ hw'
    obtain ⟨⟨dq, osq⟩, hw''⟩ := hw'
    subst hw''
    have x0 := y0 dq osq
    have x1 := y1 dq osq
    have x2 := y2 dq osq
    have x3 := y3 dq osq
    have x4 := y4 dq osq
    have hwq := hid (below_regrown wr dq osq)
    clear y0 y1 y2 y3 y4 cA
    have GN1 := hid (GN.out (k : Int) _ (bl_step hww.out hwq.out))
    generalize grow (redrawn wr dq) osq = wq at *
    have hwn := hid (bl_step hw.out hwq.out)
    by_cases hnm : g.name (k : Int) = t
    · have hR : RR = k := by have := hst1.out; rw [if_pos hnm] at this; exact this.symm
      rw [hnm, hU.out] at GN1
      subst hR
      clear hst1 hnm
      go_wp2_with (go_at_call 32; refine GN1.out.mono ?_; clear GN1; rintro e w3 ⟨rfl, hc3⟩)
      go_ret
      exact ⟨rfl, bl_step hB1.out (bl_step hwn.out hc3)⟩
    · have hI2 : Hid (symFrom g t (tm + nn + 1 - (k + 1)) (k + 1) = RR) := hid (by have := hst1.out; rwa [if_neg hnm] at this)
      have e2b : ((strT (g.name (k : Int))).toList == U.toList) = false := by rw [← hU.out, strT_toL, strT_toL, beq_eq_false_iff_ne]; exact hnm
      have e2c : ¬ (strT (g.name (k : Int))).toList = U.toList := by rw [← hU.out, strT_toL, strT_toL]; exact hnm
      clear hst1 hnm
      generalize strT (g.name (k : Int)) = U' at *
      go_wp2_with (go_at_call 32; refine GN1.out.mono ?_; clear GN1; rintro e w3 ⟨rfl, hc3⟩; have k3 := hid (bl_step hwn.out hc3))
      go_roundw
      case rel => exact ⟨k + 1, by omega, by omega, by go_num, hI2, k3⟩
      case measure => simp [intOf]; omega
  · have hltz : decide ((k : Int) ≤ (tm : Int) + (nn : Int)) = false := decide_eq_false (by omega)
    have hltz2 : ¬ (k : Int) ≤ (tm : Int) + (nn : Int) := by omega
    have hR := hend.out k hlt hI.out
    subst hR
    clear hI
    go_wp2_with fail
    refine wp_region_quiet_below (by kernel_rfl) (by kernel_rfl) ?_
    repeat (first | go_big_quiet_step (exact cA.out _ _) | quiet_step (exact cA.out _ _))
    refine wpQuiet_nil ?_
    intro _ hw'
    obtain ⟨⟨dq, osq⟩, hw''⟩ := hw'
    subst hw''
    have hwq := hid (below_regrown wr dq osq)
    go_wp2
    go_ret
    exact ⟨rfl, bl_step hww.out hwq.out⟩

end Go.Proofs.YtloaikjealcbmaaGreat
