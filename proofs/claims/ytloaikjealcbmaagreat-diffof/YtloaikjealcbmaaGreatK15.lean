/- Layer 13: what is sound. Layer 14: what is kept, gone, new. What is asked of package gram; topiarylaw12.wakes. topiarylaw14.long. -/
import Derived.Test.YtloaikjealcbmaaGreatK14
namespace Go.Proofs.YtloaikjealcbmaaGreat

/-- a name -/
structure NamT (s : Txt) : Prop where
 len : s.length ≤ 16
 head : ∃ c r, s = c :: r ∧ letB c.toNat = true
 all : ∀ c ∈ s, (letB c.toNat || digB c.toNat) = true
def namB (s : Txt) : Bool := decide (s.length ≤ 16) && (match s with | [] => false | c :: _ => letB c.toNat) && s.all (fun c => letB c.toNat || digB c.toNat) && !kwB s
theorem namB_of {s : Txt} (h : NamT s) (hk : kwB s = false) : namB s = true := by
 obtain ⟨h1, ⟨c, r, rfl, h2⟩, h3⟩ := h
 unfold namB
 simp only [Bool.and_eq_true, decide_eq_true_eq, Bool.not_eq_true', List.all_eq_true]
 exact ⟨⟨⟨h1, h2⟩, h3⟩, hk⟩
def Gm.allN (g : Gm) : List Txt := g.rules.map Rl.name ++ g.nonts
def lvB (i : Nat) (l : Int × Int) : Bool := (decide (l.1 = 0) && decide (l.2 = 0)) || (decide (0 < l.1) && decide (0 < l.2) && decide (l.2 < 4) && decide (i ≠ 0))
def pdB (g : Gm) (p : Pd) : Bool := decide ((g.terms : Int) < p.left) && decide (p.left ≤ (g.all : Int)) && decide (p.right.length ≤ 8) && decide (0 ≤ p.prec) && decide (p.prec ≤ (g.terms : Int)) && p.right.all (fun k => decide (1 ≤ k) && decide (k ≤ (g.all : Int)))
structure SndG (g : Gm) : Prop where
 rules : g.rules.length ≤ 16
 nonts : g.nonts.length ≤ 16
 prods : g.prods.length ≤ 40
 right : ∀ r ∈ g.rules, rightB r.re = true
 named : ∀ t ∈ g.allN, namB t = true
 once : g.allN.Nodup
 levels : g.levels.length = g.terms + 1
 lev : ∀ i (h : i < g.levels.length), lvB i g.levels[i] = true
 none : g.nonts.length = 0 → g.start = 0
 start : 0 < g.nonts.length → (g.terms : Int) < g.start ∧ g.start ≤ (g.all : Int)
 prod : ∀ p ∈ g.prods, pdB g p = true

end Go.Proofs.YtloaikjealcbmaaGreat
namespace Go.Proofs.YtloaikjealcbmaaGreat

/-- the first place, from i on, of a text that isn't kept yet -/
def fstK (T : List Txt) (kept : List Int) (t : Txt) : Nat → Nat → Option Nat
 | 0, _ => none
 | f + 1, i => if T.getD i [] = t ∧ (i : Int) ∉ kept then some i else fstK T kept t f (i + 1)
def fndK (T : List Txt) (kept : List Int) (t : Txt) : Option Nat := fstK T kept t T.length 0
theorem fstK_some {T : List Txt} {kept : List Int} {t : Txt} : ∀ {f i k : Nat}, fstK T kept t f i = some k → i ≤ k ∧ k < i + f ∧ T.getD k [] = t ∧ (k : Int) ∉ kept ∧ ∀ j, i ≤ j → j < k → ¬ (T.getD j [] = t ∧ (j : Int) ∉ kept)
 | 0, i, k, h => by cases h
 | f + 1, i, k, h => by
  unfold fstK at h
  split at h
  · rename_i hc
    injection h with h
    subst h
    exact ⟨Nat.le_refl _, by omega, hc.1, hc.2, fun j h1 h2 => by omega⟩
  · rename_i hc
    obtain ⟨h1, h2, h3, h4, h5⟩ := fstK_some h
    refine ⟨by omega, by omega, h3, h4, fun j hj hk => ?_⟩
    by_cases e : j = i
    · subst e; exact hc
    · exact h5 j (by omega) hk
theorem fndK_some {T : List Txt} {kept : List Int} {t : Txt} {k : Nat} (h : fndK T kept t = some k) : k < T.length ∧ T.getD k [] = t ∧ (k : Int) ∉ kept ∧ ∀ j, j < k → ¬ (T.getD j [] = t ∧ (j : Int) ∉ kept) := by
 obtain ⟨_, h2, h3, h4, h5⟩ := fstK_some h
 exact ⟨by omega, h3, h4, fun j hj => h5 j (Nat.zero_le _) hj⟩
/-- what is known behind some productions: which are kept, the pairs, the new ones -/
structure DfS where
 kept : List Int
 prs : List (Int × Int)
 new : List Int
def DfS.step (TG : List Txt) (s : DfS) (i : Nat) (t : Txt) : DfS :=
 match fndK TG s.kept t with
 | some k => ⟨s.kept ++ [(k : Int)], s.prs ++ [((k : Int), (i : Int))], s.new⟩
 | none => ⟨s.kept, s.prs, s.new ++ [(i : Int)]⟩
def dfK (TG TH : List Txt) : Nat → DfS
 | 0 => ⟨[], [], []⟩
 | i + 1 => (dfK TG TH i).step TG i (TH.getD i [])
/-- the numbers below n that aren't in a list -/
def outL (n : Nat) (l : List Int) : List Int := ((List.range n).map fun k : Nat => (k : Int)).filter fun k => !l.contains k
structure DfI (TG TH : List Txt) (i : Nat) (s : DfS) : Prop where
 fst : s.prs.map Prod.fst = s.kept
 once : s.kept.Nodup
 rng : ∀ k ∈ s.kept, ∃ j : Nat, k = (j : Int) ∧ j < TG.length
 txt : ∀ p ∈ s.prs, ∃ a b : Nat, p = ((a : Int), (b : Int)) ∧ a < TG.length ∧ b < i ∧ TG.getD a [] = TH.getD b []
 snd : ∀ b : Nat, ((s.prs.map Prod.snd).count (b : Int)) + s.new.count (b : Int) = if b < i then 1 else 0
 neg : ∀ z ∈ s.new, ∃ b : Nat, z = (b : Int) ∧ b < i
 len : s.prs.length + s.new.length = i
theorem DfI.start (TG TH : List Txt) : DfI TG TH 0 ⟨[], [], []⟩ := ⟨rfl, List.nodup_nil, fun _ h => absurd h List.not_mem_nil, fun _ h => absurd h List.not_mem_nil, fun _ => rfl, fun _ h => absurd h List.not_mem_nil, rfl⟩
theorem count_one (b i : Nat) : ([(i : Int)] : List Int).count (b : Int) = if b = i then 1 else 0 := by
 rw [List.count_singleton]
 by_cases e : b = i
 · rw [if_pos e, e]; simp
 · rw [if_neg e]
   have : ((i : Int) == (b : Int)) = false := by rw [beq_eq_false_iff_ne]; omega
   rw [this]; rfl
theorem DfI.step {TG TH : List Txt} {i : Nat} {s : DfS} (h : DfI TG TH i s) : DfI TG TH (i + 1) (s.step TG i (TH.getD i [])) := by
 unfold DfS.step
 cases hf : fndK TG s.kept (TH.getD i []) with
 | some k =>
  obtain ⟨h1, h2, h3, h4⟩ := fndK_some hf
  refine ⟨?_, ?_, ?_, ?_, ?_, ?_, ?_⟩
  · show (s.prs ++ _).map _ = _
    rw [List.map_append, h.fst]; rfl
  · show (s.kept ++ _).Nodup
    rw [List.nodup_append]
    refine ⟨h.once, List.pairwise_singleton _ _, fun a ha b hb e => ?_⟩
    rw [List.mem_singleton] at hb
    subst hb
    exact h3 (e ▸ ha)
  · intro z hz
    rcases List.mem_append.1 hz with hz | hz
    · exact h.rng z hz
    · rw [List.mem_singleton] at hz
      exact ⟨k, hz, h1⟩
  · intro p hp
    rcases List.mem_append.1 hp with hp | hp
    · obtain ⟨a, b, e, h5, h6, h7⟩ := h.txt p hp
      exact ⟨a, b, e, h5, by omega, h7⟩
    · rw [List.mem_singleton] at hp
      exact ⟨k, i, hp, h1, by omega, h2⟩
  · intro b
    show ((s.prs ++ _).map _).count _ + s.new.count _ = _
    rw [List.map_append, List.count_append]
    have := h.snd b
    show _ + ([(i : Int)] : List Int).count _ + _ = _
    rw [count_one]
    by_cases e : b = i
    · subst e
      rw [if_pos rfl, if_pos (by omega)]
      rw [if_neg (by omega)] at this
      omega
    · rw [if_neg e]
      by_cases h9 : b < i
      · rw [if_pos h9] at this
        rw [if_pos (by omega)]
        omega
      · rw [if_neg h9] at this
        rw [if_neg (by omega)]
        omega
  · intro z hz
    obtain ⟨b, e, hb⟩ := h.neg z hz
    exact ⟨b, e, by omega⟩
  · show (s.prs ++ _).length + s.new.length = _
    rw [List.length_append, List.length_singleton]
    have := h.len
    omega
 | none =>
  refine ⟨h.fst, h.once, h.rng, ?_, ?_, ?_, ?_⟩
  · intro p hp
    obtain ⟨a, b, e, h5, h6, h7⟩ := h.txt p hp
    exact ⟨a, b, e, h5, by omega, h7⟩
  · intro b
    show (s.prs.map _).count _ + (s.new ++ _).count _ = _
    rw [List.count_append, count_one]
    have := h.snd b
    by_cases e : b = i
    · subst e
      rw [if_pos rfl, if_pos (by omega)]
      rw [if_neg (by omega)] at this
      omega
    · rw [if_neg e]
      by_cases h9 : b < i
      · rw [if_pos h9] at this
        rw [if_pos (by omega)]
        omega
      · rw [if_neg h9] at this
        rw [if_neg (by omega)]
        omega
  · intro z hz
    rcases List.mem_append.1 hz with hz | hz
    · obtain ⟨b, e, hb⟩ := h.neg z hz
      exact ⟨b, e, by omega⟩
    · rw [List.mem_singleton] at hz
      exact ⟨i, hz, by omega⟩
  · show s.prs.length + (s.new ++ _).length = _
    rw [List.length_append, List.length_singleton]
    have := h.len
    omega
theorem dfK_good (TG TH : List Txt) : ∀ i, DfI TG TH i (dfK TG TH i)
 | 0 => DfI.start TG TH
 | i + 1 => (dfK_good TG TH i).step
/-- all of it: kept pairs, gone, new -/
def dfPrs (TG TH : List Txt) : List (Int × Int) := (dfK TG TH TH.length).prs
def dfNew (TG TH : List Txt) : List Int := (dfK TG TH TH.length).new
def dfGone (TG TH : List Txt) : List Int := outL TG.length (dfK TG TH TH.length).kept
theorem outL_succ (n : Nat) (l : List Int) : outL (n + 1) l = outL n l ++ (if l.contains (n : Int) then [] else [(n : Int)]) := by
 unfold outL
 rw [List.range_succ, List.map_append, List.filter_append]
 congr 1
 show List.filter _ [(n : Int)] = _
 rw [List.filter_cons]
 cases h : l.contains (n : Int) <;> simp
theorem outL_count (n : Nat) (l : List Int) (b : Nat) : (outL n l).count (b : Int) = if b < n ∧ (b : Int) ∉ l then 1 else 0 := by
 induction n with
 | zero => simp [outL]
 | succ n ih =>
  rw [outL_succ, List.count_append, ih]
  by_cases e : b = n
  · subst e
    rw [if_neg (by omega)]
    by_cases hm : (b : Int) ∈ l
    · rw [if_pos (List.contains_iff_mem.2 hm), if_neg (fun h => h.2 hm)]; rfl
    · rw [if_neg (fun h => hm (List.contains_iff_mem.1 h)), if_pos ⟨by omega, hm⟩, count_one, if_pos rfl]
  · have hz : (if l.contains (n : Int) then [] else [(n : Int)]).count (b : Int) = 0 := by
     split
     · rfl
     · rw [count_one, if_neg e]
    rw [hz]
    by_cases hb : b < n ∧ (b : Int) ∉ l
    · rw [if_pos hb, if_pos ⟨by omega, hb.2⟩]
    · rw [if_neg hb, if_neg (fun h => hb ⟨by omega, h.2⟩)]
theorem outL_len (n : Nat) (l : List Int) (hd : l.Nodup) (hr : ∀ k ∈ l, ∃ j : Nat, k = (j : Int) ∧ j < n) : (outL n l).length + l.length = n := by
 induction n generalizing l with
 | zero =>
  cases l with
  | nil => rfl
  | cons x r => obtain ⟨j, _, hj⟩ := hr x List.mem_cons_self; omega
 | succ n ih =>
  rw [outL_succ, List.length_append]
  by_cases hm : (n : Int) ∈ l
  · rw [if_pos (List.contains_iff_mem.2 hm)]
    have h1 := ih (l.erase (n : Int)) (hd.erase _) (fun k hk => by
     have hk1 := List.mem_of_mem_erase hk
     obtain ⟨j, e, hj⟩ := hr k hk1
     refine ⟨j, e, ?_⟩
     have : j ≠ n := fun e2 => by
      subst e2
      rw [e] at hk
      exact (List.Nodup.not_mem_erase hd) hk
     omega)
    have h2 : outL n (l.erase (n : Int)) = outL n l := by
     unfold outL
     refine List.filter_congr (fun x hx => ?_)
     rw [List.mem_map] at hx
     obtain ⟨j, hj, rfl⟩ := hx
     rw [List.mem_range] at hj
     have : ((j : Nat) : Int) ≠ (n : Int) := by omega
     have h3 : (l.erase (n : Int)).contains (j : Int) = l.contains (j : Int) := by
      rw [Bool.eq_iff_iff, List.contains_iff_mem, List.contains_iff_mem]
      exact List.mem_erase_of_ne this
     rw [h3]
    rw [h2] at h1
    have h4 := List.length_erase_of_mem hm
    have h5 := List.length_pos_of_mem hm
    simp only [List.length_nil]
    omega
  · rw [if_neg (fun h => hm (List.contains_iff_mem.1 h))]
    have h1 := ih l hd (fun k hk => by
     obtain ⟨j, e, hj⟩ := hr k hk
     refine ⟨j, e, ?_⟩
     have : j ≠ n := fun e2 => by subst e2; exact hm (e ▸ hk)
     omega)
    simp only [List.length_singleton]
    omega
theorem dfK_lens (TG TH : List Txt) : (dfPrs TG TH).length + (dfNew TG TH).length = TH.length ∧ (dfPrs TG TH).length + (dfGone TG TH).length = TG.length := by
 have h := dfK_good TG TH TH.length
 refine ⟨h.len, ?_⟩
 have h1 := outL_len TG.length _ h.once h.rng
 have h2 : (dfPrs TG TH).length = (dfK TG TH TH.length).kept.length := by
  rw [← h.fst, List.length_map]; rfl
 rw [h2]
 unfold dfGone
 omega

end Go.Proofs.YtloaikjealcbmaaGreat
namespace Go.Proofs.YtloaikjealcbmaaGreat
open Go.RowKit Go.Maps Go.Sort

/-- what the law of sound grammars asks -/
structure SoundG (g : Gm) : Prop where
 levels : g.levels.length = g.terms + 1
 start : 0 < g.nonts.length → (g.terms : Int) < g.start ∧ g.start ≤ (g.all : Int)
 names : ∀ i j : Nat, 1 ≤ i → i < j → j ≤ g.all → g.name (i : Int) ≠ g.name (j : Int)
 prods : ∀ p ∈ g.prods, (g.terms : Int) < p.left ∧ p.left ≤ (g.all : Int) ∧ 0 ≤ p.prec ∧ p.prec ≤ (g.terms : Int) ∧ p.right.length ≤ 8 ∧ ∀ k ∈ p.right, 1 ≤ k ∧ k ≤ (g.all : Int)
structure BndG (g : Gm) : Prop where
 rules : g.rules.length ≤ 1000
 nonts : g.nonts.length ≤ 1000
 levels : g.levels.length ≤ 1000
 prods : g.prods.length ≤ 1000
 re : ∀ r ∈ g.rules, r.re.length ≤ 1000
 right : ∀ p ∈ g.prods, p.right.length ≤ 1000
def ex1 : Txt := [116, 111, 107, 101, 110, 32, 97, 32, 47, 120, 47, 59, 32, 115, 58, 32, 97, 32, 115, 32, 124, 32, 59]
def ex2 : Txt := [115, 58, 32, 98, 59]
/-- what is asked of gram.Parse: a grammar for each text, or none -/
structure PrsOK (prs : Txt → Option Gm) : Prop where
 yes : ∀ (s : Txt) (g : Gm) (u : World), s.length ≤ 1000000 → prs s = some g → Calls Tryz.prog 17 #[.string (strT s)] u fun e w' => ∃ rv nv lv pv, e = .returned (.tuple #[gmA rv nv lv pv g.start, .int .i64 0, .int .i64 0]) ∧ GmV w' rv nv lv pv g ∧ Below u.heap.size u w'
 no : ∀ (s : Txt) (u : World), s.length ≤ 1000000 → prs s = none → Calls Tryz.prog 17 #[.string (strT s)] u fun e w' => ∃ (ra na la pa : Option Addr) (rc nc lc pc : Nat) (st n er : Int), e = .returned (.tuple #[gmA (.slice ra 0 rc) (.slice na 0 nc) (.slice la 0 lc) (.slice pa 0 pc) st, .int .i64 n, .int .i64 er]) ∧ er ≠ 0 ∧ Below u.heap.size u w'
 ex : ∃ g, prs ex1 = some g ∧ g.start = 2 ∧ g.prods.length = 2 ∧ ∀ h : 0 < g.prods.length, g.prods[0].right = [1, 2]
 bad : ∀ u : World, Calls Tryz.prog 17 #[.string (strT ex2)] u fun e w' => ∃ (ra na la pa : Option Addr) (rc nc lc pc : Nat) (st : Int), e = .returned (.tuple #[gmA (.slice ra 0 rc) (.slice na 0 nc) (.slice la 0 lc) (.slice pa 0 pc) st, .int .i64 3, .int .i64 5]) ∧ Below u.heap.size u w'
 bnd : ∀ s g, prs s = some g → BndG g
theorem cells5m {w : World} {b t : Nat} {x0 x1 x2 x3 x4 : Value} (h : w.heap[b]? = some (.cells #[x0, x1, x2, x3, x4] t (0, 0))) : w.cell? ⟨b, 0, none⟩ = some x0 ∧ w.cell? ⟨b, 1, none⟩ = some x1 ∧ w.cell? ⟨b, 2, none⟩ = some x2 ∧ w.cell? ⟨b, 3, none⟩ = some x3 ∧ w.cell? ⟨b, 4, none⟩ = some x4 :=
 ⟨blk_cell h rfl, blk_cell h rfl, blk_cell h rfl, blk_cell h rfl, blk_cell h rfl⟩
end Go.Proofs.YtloaikjealcbmaaGreat
namespace Go.Proofs.YtloaikjealcbmaaGreat
open Go.RowKit Go.Maps

/-- no list of a grammar is longer than the laws take -/
structure Fits12 (g : Gm) : Prop where
 rules : g.rules.length ≤ 40
 nonts : g.nonts.length ≤ 40
 levels : g.levels.length ≤ 100
 prods : g.prods.length ≤ 60
 rule : ∀ j (h : j < g.rules.length), g.rules[j].re.length ≤ 100 ∧ g.rules[j].name.length ≤ 100
 nont : ∀ j (h : j < g.nonts.length), g.nonts[j].length ≤ 100
 prod : ∀ j (h : j < g.prods.length), g.prods[j].right.length ≤ 30
/-- what long answers: false just of a grammar that fits -/
def LngA (g : Gm) (w : World) (e : Ending) (w' : World) : Prop := ∃ b, e = .returned (.bool b) ∧ (b = false ↔ Fits12 g) ∧ Below w.heap.size w w'
theorem LngA.yes {g : Gm} {w w' : World} (h : Below w.heap.size w w') (hf : ¬ Fits12 g) : LngA g w (.returned (.bool true)) w' := ⟨true, rfl, ⟨fun h => (by cases h), fun h => absurd h hf⟩, h⟩
theorem LngA.no {g : Gm} {w w' : World} (h : Below w.heap.size w w') (hf : Fits12 g) : LngA g w (.returned (.bool false)) w' := ⟨false, rfl, ⟨fun _ => hf, fun _ => rfl⟩, h⟩
set_option maxRecDepth 20000 in
set_option maxHeartbeats 2000000 in
theorem long12 (rv nv lv pv : Value) (g : Gm) (w : World) (h : GmV w rv nv lv pv g) :
 Calls Tryz.prog 9 #[gmA rv nv lv pv g.start] w (LngA g w) := by
 obtain ⟨a, c, rfl⟩ := h.rules.shape
 obtain ⟨na, nc, rfl⟩ := h.nonts.shape
 obtain ⟨la, lc, rfl⟩ := h.levels.shape
 obtain ⟨pa, pc, rfl⟩ := h.prods.shape
 have hV := hid h
 clear h
 obtain ⟨st, hst⟩ : ∃ x, g.start = x := ⟨_, rfl⟩
 rw [hst]
 obtain ⟨n, hn⟩ : ∃ n, Hid (g.rules.length = n) := ⟨_, hid rfl⟩
 obtain ⟨nn, hnn⟩ : ∃ n, Hid (g.nonts.length = n) := ⟨_, hid rfl⟩
 obtain ⟨nl, hnl⟩ : ∃ n, Hid (g.levels.length = n) := ⟨_, hid rfl⟩
 obtain ⟨np, hnp⟩ : ∃ n, Hid (g.prods.length = n) := ⟨_, hid rfl⟩
 rw [hn.out, hnn.out, hnl.out, hnp.out] at hV ⊢
 obtain ⟨W1, hW1⟩ : ∃ x, w.alloc (.cells #[.slice a n c, .slice na nn nc, .slice la nl lc, .slice pa np pc, .int .i64 st] 27) = x := ⟨_, rfl⟩
 have hB1 : Hid (Below w.heap.size w W1) := by rw [← hW1]; exact hid (al' w _)
 have hk1 : Hid (W1.heap[w.heap.size]? = some (.cells #[.slice a n c, .slice na nn nc, .slice la nl lc, .slice pa np pc, .int .i64 st] 27)) := by rw [← hW1]; exact hid (heap_new w _)
 have y0 : W1.cell? ⟨w.heap.size, 0, none⟩ = some (.slice a n c) := blk_cell hk1.out rfl
 have y1 : W1.cell? ⟨w.heap.size, 1, none⟩ = some (.slice na nn nc) := blk_cell hk1.out rfl
 have y2 : W1.cell? ⟨w.heap.size, 2, none⟩ = some (.slice la nl lc) := blk_cell hk1.out rfl
 have y3 : W1.cell? ⟨w.heap.size, 3, none⟩ = some (.slice pa np pc) := blk_cell hk1.out rfl
 have hV1 := hid (hV.out.keep hB1.out)
 clear hV hk1 hst
 by_cases hbig : n ≤ 40 ∧ nn ≤ 40 ∧ nl ≤ 100 ∧ np ≤ 60
 · obtain ⟨b1, b2, b3, b4⟩ := hbig
   have c1 : ¬ (40 : Int) < (n : Int) := by omega
   have c2 : ¬ (40 : Int) < (nn : Int) := by omega
   have c3 : ¬ (100 : Int) < (nl : Int) := by omega
   have c4 : ¬ (60 : Int) < (np : Int) := by omega
   go_enter Tryz.func9, Tryz.ntmps9
   go_wp2
   clear hW1 c1 c2 c3 c4
   go_loopw [31] (fun i wr => ∃ k : Nat, k ≤ n ∧ i = .int .i64 (k : Int) ∧ Hid (∀ j (h : j < g.rules.length), j < k → g.rules[j].re.length ≤ 100 ∧ g.rules[j].name.length ≤ 100) ∧ wr = W1) (fun i _ => n - (intOf i).toNat)
   case atStart => exact ⟨0, Nat.zero_le _, rfl, hid (fun j _ hj => absurd hj (Nat.not_lt_zero _)), rfl⟩
   case round =>
    obtain ⟨k, hk, rfl, hS, hwr⟩ := hrel
    subst wr
    by_cases hlt : k < n
    · have hltz : (k : Int) < (n : Int) := by omega
      have hkl : k < g.rules.length := by rw [hn.out]; exact hlt
      obtain ⟨b, o, he, -, v, x0, x1, -, hC⟩ := hV1.out.rules.at hkl
      subst he
      obtain ⟨ra, rc, rfl, -⟩ := hC
      have hsz := strT_size g.rules[k].name
      have hS1 : Hid (g.rules[k].re.length ≤ 100 → g.rules[k].name.length ≤ 100 → ∀ j (h : j < g.rules.length), j < k + 1 → g.rules[j].re.length ≤ 100 ∧ g.rules[j].name.length ≤ 100) := hid (fun p1 p2 j h hj => by
       rcases Nat.lt_or_ge j k with h8 | h8
       · exact hS.out j h h8
       · obtain rfl : j = k := by omega
         exact ⟨p1, p2⟩)
      have hF1 : Hid (100 < g.rules[k].re.length → ¬ Fits12 g) := hid (fun h9 h8 => absurd (h8.rule k hkl).1 (by omega))
      have hF2 : Hid (100 < g.rules[k].name.length → ¬ Fits12 g) := hid (fun h9 h8 => absurd (h8.rule k hkl).2 (by omega))
      generalize g.rules[k].re.length = rl at *
      generalize g.rules[k].name = T at *
      by_cases h1 : 100 < rl
      · have h1z : (100 : Int) < (rl : Int) := by omega
        clear hS1
        go_wp2
        go_ret
        exact LngA.yes hB1.out (hF1.out h1)
      · have h1z : ¬ (100 : Int) < (rl : Int) := by omega
        by_cases h2 : 100 < T.length
        · have h2z : (100 : Int) < (T.length : Int) := by omega
          clear hS1
          go_wp2
          go_ret
          exact LngA.yes hB1.out (hF2.out h2)
        · have h2z : ¬ (100 : Int) < (T.length : Int) := by omega
          have hS2 := hid (hS1.out (by omega) (by omega))
          clear hS1
          go_wp2
          go_roundw
          case rel => exact ⟨k + 1, by omega, by go_num, hS2, by first | rfl | trivial⟩
          case measure => simp [intOf]; omega
    · have hltz : ¬ (k : Int) < (n : Int) := by omega
      obtain rfl : k = n := by omega
      go_wp2
      have hS9 := hid (fun j (h : j < g.rules.length) => hS.out j h (by rw [← hn.out]; exact h))
      clear hS hlt hltz hk
      go_loopw [56] (fun i wr => ∃ q : Nat, q ≤ nn ∧ i = .int .i64 (q : Int) ∧ Hid (∀ j (h : j < g.nonts.length), j < q → g.nonts[j].length ≤ 100) ∧ wr = W1) (fun i _ => nn - (intOf i).toNat)
      case atStart => exact ⟨0, Nat.zero_le _, rfl, hid (fun j _ hj => absurd hj (Nat.not_lt_zero _)), by first | rfl | trivial⟩
      case round =>
       obtain ⟨q, hk, rfl, hS, hwr⟩ := hrel
       subst wr
       by_cases hlt : q < nn
       · have hltz : (q : Int) < (nn : Int) := by omega
         have hkl : q < g.nonts.length := by rw [hnn.out]; exact hlt
         obtain ⟨b, o, he, -, x0⟩ := hV1.out.nonts.at hkl
         subst he
         rw [Nat.mul_one] at x0
         unfold TxtAt at x0
         have hsz := strT_size g.nonts[q]
         have hS1 : Hid (g.nonts[q].length ≤ 100 → ∀ j (h : j < g.nonts.length), j < q + 1 → g.nonts[j].length ≤ 100) := hid (fun p1 j h hj => by
          rcases Nat.lt_or_ge j q with h8 | h8
          · exact hS.out j h h8
          · obtain rfl : j = q := by omega
            exact p1)
         have hF1 : Hid (100 < g.nonts[q].length → ¬ Fits12 g) := hid (fun h9 h8 => absurd (h8.nont q hkl) (by omega))
         generalize g.nonts[q] = T at *
         by_cases h2 : 100 < T.length
         · have h2z : (100 : Int) < (T.length : Int) := by omega
           clear hS1
           go_wp2
           go_ret
           exact LngA.yes hB1.out (hF1.out h2)
         · have h2z : ¬ (100 : Int) < (T.length : Int) := by omega
           have hS2 := hid (hS1.out (by omega))
           clear hS1
           go_wp2
           go_roundw
           case rel => exact ⟨q + 1, by omega, by go_num, hS2, by first | rfl | trivial⟩
           case measure => simp [intOf]; omega
       · have hltz : ¬ (q : Int) < (nn : Int) := by omega
         obtain rfl : q = nn := by omega
         go_wp2
         have hN9 := hid (fun j (h : j < g.nonts.length) => hS.out j h (by rw [← hnn.out]; exact h))
         clear hS hlt hltz hk
         go_loopw [70] (fun i wr => ∃ r : Nat, r ≤ np ∧ i = .int .i64 (r : Int) ∧ Hid (∀ j (h : j < g.prods.length), j < r → g.prods[j].right.length ≤ 30) ∧ wr = W1) (fun i _ => np - (intOf i).toNat)
         case atStart => exact ⟨0, Nat.zero_le _, rfl, hid (fun j _ hj => absurd hj (Nat.not_lt_zero _)), by first | rfl | trivial⟩
         case round =>
          obtain ⟨r, hk, rfl, hS, hwr⟩ := hrel
          subst wr
          by_cases hlt : r < np
          · have hltz : (r : Int) < (np : Int) := by omega
            have hkl : r < g.prods.length := by rw [hnp.out]; exact hlt
            obtain ⟨b, o, he, -, v, -, x1, -, hC⟩ := hV1.out.prods.at hkl
            subst he
            obtain ⟨ra, rc, rfl, -⟩ := hC
            have hS1 : Hid (g.prods[r].right.length ≤ 30 → ∀ j (h : j < g.prods.length), j < r + 1 → g.prods[j].right.length ≤ 30) := hid (fun p1 j h hj => by
             rcases Nat.lt_or_ge j r with h8 | h8
             · exact hS.out j h h8
             · obtain rfl : j = r := by omega
               exact p1)
            have hF1 : Hid (30 < g.prods[r].right.length → ¬ Fits12 g) := hid (fun h9 h8 => absurd (h8.prod r hkl) (by omega))
            generalize g.prods[r].right.length = rl at *
            by_cases h2 : 30 < rl
            · have h2z : (30 : Int) < (rl : Int) := by omega
              clear hS1
              go_wp2
              go_ret
              exact LngA.yes hB1.out (hF1.out h2)
            · have h2z : ¬ (30 : Int) < (rl : Int) := by omega
              have hS2 := hid (hS1.out (by omega))
              clear hS1
              go_wp2
              go_roundw
              case rel => exact ⟨r + 1, by omega, by go_num, hS2, by first | rfl | trivial⟩
              case measure => simp [intOf]; omega
          · have hltz : ¬ (r : Int) < (np : Int) := by omega
            obtain rfl : r = np := by omega
            have hfit : Hid (Fits12 g) := hid ⟨by rw [hn.out]; exact b1, by rw [hnn.out]; exact b2, by rw [hnl.out]; exact b3, by rw [hnp.out]; exact b4, hS9.out, hN9.out, fun j h => hS.out j h (by rw [← hnp.out]; exact h)⟩
            go_wp2
            go_ret
            exact LngA.no hB1.out hfit.out
 · have hb' : (40 : Int) < (n : Int) ∨ (¬ (40 : Int) < (n : Int) ∧ (40 : Int) < (nn : Int)) ∨ (¬ (40 : Int) < (n : Int) ∧ ¬ (40 : Int) < (nn : Int) ∧ (100 : Int) < (nl : Int)) ∨ (¬ (40 : Int) < (n : Int) ∧ ¬ (40 : Int) < (nn : Int) ∧ ¬ (100 : Int) < (nl : Int) ∧ (60 : Int) < (np : Int)) := by omega
   have hNF : Hid (¬ Fits12 g) := hid (fun h9 => hbig ⟨by rw [← hn.out]; exact h9.rules, by rw [← hnn.out]; exact h9.nonts, by rw [← hnl.out]; exact h9.levels, by rw [← hnp.out]; exact h9.prods⟩)
   clear hbig
   rcases hb' with c1 | ⟨c1, c2⟩ | ⟨c1, c2, c3⟩ | ⟨c1, c2, c3, c4⟩
   · go_enter Tryz.func9, Tryz.ntmps9
     go_wp2
     go_ret
     exact LngA.yes hB1.out hNF.out
   · go_enter Tryz.func9, Tryz.ntmps9
     go_wp2
     go_ret
     exact LngA.yes hB1.out hNF.out
   · go_enter Tryz.func9, Tryz.ntmps9
     go_wp2
     go_ret
     exact LngA.yes hB1.out hNF.out
   · go_enter Tryz.func9, Tryz.ntmps9
     go_wp2
     go_ret
     exact LngA.yes hB1.out hNF.out

set_option maxRecDepth 20000 in
theorem longYes (rv nv lv pv : Value) (g : Gm) (w : World) (h : GmV w rv nv lv pv g) (hf : ¬ Fits12 g) : Calls Tryz.prog 9 #[gmA rv nv lv pv g.start] w fun e w' => e = .returned (.bool true) ∧ Below w.heap.size w w' :=
 (long12 rv nv lv pv g w h).mono (by
  rintro e w' ⟨b, rfl, hb, hw⟩
  cases b with
  | true => exact ⟨rfl, hw⟩
  | false => exact absurd (hb.1 rfl) hf)
set_option maxRecDepth 20000 in
theorem longNo (rv nv lv pv : Value) (g : Gm) (w : World) (h : GmV w rv nv lv pv g) (hf : Fits12 g) : Calls Tryz.prog 9 #[gmA rv nv lv pv g.start] w fun e w' => e = .returned (.bool false) ∧ Below w.heap.size w w' :=
 (long12 rv nv lv pv g w h).mono (by
  rintro e w' ⟨b, rfl, hb, hw⟩
  rw [hb.2 hf]
  exact ⟨rfl, hw⟩)

end Go.Proofs.YtloaikjealcbmaaGreat
