/- Maps of the call's own, their elements as they lie. Layer 14: what is left of a text. Package diff: the numbers of the productions by their texts. Package diff: the change while it is made; what is left by texts. -/
import Derived.Test.YtloaikjealcbmaaGreatK21
import Derived.Test.YtloaikjealcbmaaGreatK18
import Derived.Maps.RangeWalk
import Derived.Sort.MapsRangeIn
import Derived.Maps.AppendAt
namespace Go.Proofs.YtloaikjealcbmaaGreat
open Go.RowKit Go.Maps Go.Sort

set_option maxRecDepth 20000 in
theorem heldR_inv {v v' : Value} {ps : List MemPlace} (h : heldR v = some (.held v', ps)) : v = v' := by
 injection h with h
 injection h with h _
 injection h
abbrev HMp (w : World) (mb n : Nat) (D : HDat) : Prop := w.ownsMap Tryz.prog 9 heldR mb n D
theorem HMp.below {w w' : World} {mb n : Nat} {D : HDat} (h : HMp w mb n D) (hb : Below w.heap.size w w') : HMp w' mb n D := by
 have hlt := h.lt
 obtain ⟨es, clock, e1, e2⟩ := h
 exact ⟨es, clock, (hb.block mb hlt).trans e1, e2⟩
set_option maxRecDepth 20000 in
theorem key_inv {key : Value} {kl : Lit} (h : keyOf Tryz.prog 9 key = some kl) : ∃ t : Txt, key = .string (strT t) ∧ kl = kyT t ∧ t.length ≤ maxLen := by
 obtain ⟨s, rfl⟩ := Maps.keyOf_string_inv Tryz.underlying9 h
 have hs : s = strT s.data.toList := by
  unfold strT
  rw [Array.toArray_toList]
 by_cases hl : s.size ≤ maxLen
 · rw [WideMaps.keyOf_string_mk Tryz.underlying9 hl] at h
   injection h with h
   refine ⟨s.data.toList, by rw [← hs], h.symm, ?_⟩
   rw [Array.length_toList]
   exact hl
 · exfalso
   simp [keyOf, Tryz.underlying9, mapKey] at h
   omega
set_option maxRecDepth 20000 in
/-- the step of a range over such a map: keys are texts, elements of a shape -/
theorem wpList_next_held {α : Type} (mk : α → Value) (w : World) {ops : Array Oper} {rest : List Oper} {o : Oper} {a : Act} {Q : Exit → Act → World → Prop} (hg : o.guard = none) (it : Operand) (hop : o.op = Op.next it false) (b r n : Nat) (D : HDat) (left : Lit → Bool) (cnt : Nat)
 (hit : a.eval it = .pointer (some ⟨r, 0, none⟩)) (h : w.ranges Tryz.prog 9 heldR b r n D left cnt)
 (hsh : ∀ t : Txt, Maps.has D (kyT t) = true → ∃ x, ∀ z, D.atKey (kyT t) z = .held (mk x))
 (hDone : (∀ kl, left kl = false) → wpList Tryz.prog ops Q rest (a.put o.dst (.tuple #[.bool false])) w)
 (hMore : ∀ (t : Txt) (x : α) (w' : World) (cnt' : Nat), t.length ≤ maxLen → left (kyT t) = true → Maps.has D (kyT t) = true → (∀ z, D.atKey (kyT t) z = .held (mk x)) → w'.ranges Tryz.prog 9 heldR b r n D (fun z => left z && !z.sameKey (kyT t)) cnt' → cnt' < cnt →
  w.grownBy w' (some r) → (Instr.entry (.pointer (some ⟨r, 0, none⟩))).run Tryz.prog w' = .ok (.tuple #[.string (strT t), mk x]) w' → wpList Tryz.prog ops Q rest (a.put o.dst (.tuple #[.bool true, .string (strT t), mk x])) w') :
 wpList Tryz.prog ops Q (o :: rest) a w := by
 refine wpList_next_ranges w hg it hop 9 (string_keyed Tryz.underlying9) heldR id id (fun key _ _ => ⟨key, rfl⟩) (fun v _ _ => ⟨v, rfl⟩) b r n D left cnt hit h (fun _ h0 => hDone h0) ?_
 intro key c kl y w' cnt' hkey hlk hv hat hrg hlt hgr hsz hen
 obtain ⟨t, e1, e2, e3⟩ := key_inv hkey
 have e1 : key = .string (strT t) := e1
 subst e1 e2
 have hh : Maps.has D (kyT t) = true := has_true_of_atKey hat
 obtain ⟨x, hx⟩ := hsh t hh
 have hy : c = mk x := by
  have h9 : heldR c = some y := hv
  injection h9 with h9
  have h8 := hat .nil
  rw [hx .nil, ← h9] at h8
  injection h8 with h8
  exact h8.symm
 subst hy
 exact hMore t x w' cnt' e3 hlk hh hx hrg hlt hgr hen
theorem sameKy (s t : Txt) : (kyT s).sameKey (kyT t) = decide (s = t) := by
 by_cases e : s = t
 · rw [decide_eq_true e, e]
   exact WideAt.sameKey_self (kyT_lit t)
 · rw [decide_eq_false e]
   exact sameKey_ne (kyT_ne e)

end Go.Proofs.YtloaikjealcbmaaGreat
namespace Go.Proofs.YtloaikjealcbmaaGreat

def msL (l : List Int) : List Int := l.mergeSort fun x y => decide (x ≤ y)
/-- what of a text isn't kept yet, from i on, in order -/
def lfK (T : List Txt) (kept : List Int) (t : Txt) : Nat → Nat → List Int
 | 0, _ => []
 | f + 1, i => if T.getD i [] = t ∧ (i : Int) ∉ kept then (i : Int) :: lfK T kept t f (i + 1) else lfK T kept t f (i + 1)
def lftL (T : List Txt) (kept : List Int) (t : Txt) : List Int := lfK T kept t T.length 0
theorem lfK_none {T : List Txt} {kept : List Int} {t : Txt} : ∀ {f i : Nat}, fstK T kept t f i = none → lfK T kept t f i = []
 | 0, _, _ => rfl
 | f + 1, i, h => by
  unfold fstK at h
  unfold lfK
  split at h
  · cases h
  · rename_i hc
    rw [if_neg hc]
    exact lfK_none h
theorem lfK_low {T : List Txt} {kept : List Int} {t : Txt} {k : Nat} : ∀ {f i : Nat}, k < i → lfK T (kept ++ [(k : Int)]) t f i = lfK T kept t f i
 | 0, _, _ => rfl
 | f + 1, i, h => by
  unfold lfK
  rw [lfK_low (f := f) (i := i + 1) (by omega)]
  have e : ((i : Int) ∉ kept ++ [(k : Int)]) ↔ (i : Int) ∉ kept := by
   rw [List.mem_append, List.mem_singleton]
   constructor
   · exact fun h1 h2 => h1 (Or.inl h2)
   · exact fun h1 h2 => h2.elim h1 (fun h3 => by omega)
  by_cases hc : T.getD i [] = t ∧ (i : Int) ∉ kept
  · rw [if_pos hc, if_pos ⟨hc.1, e.2 hc.2⟩]
  · rw [if_neg hc, if_neg (fun h3 => hc ⟨h3.1, e.1 h3.2⟩)]
theorem lfK_some {T : List Txt} {kept : List Int} {t : Txt} : ∀ {f i k : Nat}, fstK T kept t f i = some k → lfK T kept t f i = (k : Int) :: lfK T (kept ++ [(k : Int)]) t f i
 | 0, _, _, h => by cases h
 | f + 1, i, k, h => by
  unfold fstK at h
  unfold lfK
  split at h
  · rename_i hc
    injection h with h
    subst h
    rw [if_pos hc, if_neg (fun h3 => h3.2 (List.mem_append_right _ (List.mem_singleton.2 rfl))), lfK_low (Nat.lt_succ_self _)]
  · rename_i hc
    have hk := fstK_some h
    rw [if_neg hc, if_neg (fun h3 => hc ⟨h3.1, fun h4 => h3.2 (List.mem_append_left _ h4)⟩)]
    exact lfK_some h
theorem lfK_other {T : List Txt} {kept : List Int} {t : Txt} {k : Nat} (hk : T.getD k [] ≠ t) : ∀ {f i : Nat}, lfK T (kept ++ [(k : Int)]) t f i = lfK T kept t f i
 | 0, _ => rfl
 | f + 1, i => by
  unfold lfK
  rw [lfK_other hk (f := f) (i := i + 1)]
  by_cases hc : T.getD i [] = t ∧ (i : Int) ∉ kept
  · have hik : i ≠ k := fun e => hk (e ▸ hc.1)
    rw [if_pos hc, if_pos ⟨hc.1, fun h3 => (List.mem_append.1 h3).elim hc.2 (fun h4 => by rw [List.mem_singleton] at h4; omega)⟩]
  · rw [if_neg hc, if_neg (fun h3 => hc ⟨h3.1, fun h4 => h3.2 (List.mem_append_left _ h4)⟩)]
theorem lfK_mem {T : List Txt} {kept : List Int} {t : Txt} {x : Int} : ∀ {f i : Nat}, x ∈ lfK T kept t f i → ∃ k : Nat, x = (k : Int) ∧ i ≤ k ∧ k < i + f
 | 0, _, h => absurd h List.not_mem_nil
 | f + 1, i, h => by
  unfold lfK at h
  split at h
  · rcases List.mem_cons.1 h with h | h
    · exact ⟨i, h, Nat.le_refl _, by omega⟩
    · obtain ⟨k, h1, h2, h3⟩ := lfK_mem h
      exact ⟨k, h1, by omega, by omega⟩
  · obtain ⟨k, h1, h2, h3⟩ := lfK_mem h
    exact ⟨k, h1, by omega, by omega⟩
theorem lfK_len {T : List Txt} {kept : List Int} {t : Txt} : ∀ {f i : Nat}, (lfK T kept t f i).length ≤ f
 | 0, _ => Nat.le_refl _
 | f + 1, i => by
  unfold lfK
  have := lfK_len (T := T) (kept := kept) (t := t) (f := f) (i := i + 1)
  split
  · rw [List.length_cons]; omega
  · omega
theorem lfK_count {T : List Txt} {kept : List Int} {t : Txt} (b : Nat) : ∀ {f i : Nat}, (lfK T kept t f i).count (b : Int) = if i ≤ b ∧ b < i + f ∧ T.getD b [] = t ∧ (b : Int) ∉ kept then 1 else 0
 | 0, i => by
  rw [if_neg (fun h => by omega)]
  rfl
 | f + 1, i => by
  have ih := lfK_count (T := T) (kept := kept) (t := t) b (f := f) (i := i + 1)
  unfold lfK
  by_cases e : b = i
  · subst e
    rw [if_neg (fun h => by omega)] at ih
    by_cases hc : T.getD b [] = t ∧ (b : Int) ∉ kept
    · rw [if_pos hc, if_pos ⟨Nat.le_refl _, by omega, hc⟩, List.count_cons_self, ih]
    · rw [if_neg hc, if_neg (fun h => hc h.2.2), ih]
  · have h9 : (if T.getD i [] = t ∧ (i : Int) ∉ kept then (i : Int) :: lfK T kept t f (i + 1) else lfK T kept t f (i + 1)).count (b : Int) = (lfK T kept t f (i + 1)).count (b : Int) := by
     split
     · exact List.count_cons_of_ne (by omega)
     · rfl
    rw [h9, ih]
    by_cases hc : i + 1 ≤ b ∧ b < i + 1 + f ∧ T.getD b [] = t ∧ (b : Int) ∉ kept
    · rw [if_pos hc, if_pos ⟨by omega, by omega, hc.2.2⟩]
    · rw [if_neg hc, if_neg (fun h => hc ⟨by omega, by omega, h.2.2⟩)]
theorem lfK_snoc {T : List Txt} {kept : List Int} {t : Txt} : ∀ {f i : Nat}, lfK T kept t (f + 1) i = lfK T kept t f i ++ (if T.getD (i + f) [] = t ∧ ((i + f : Nat) : Int) ∉ kept then [((i + f : Nat) : Int)] else [])
 | 0, i => by
  show (if T.getD i [] = t ∧ (i : Int) ∉ kept then (i : Int) :: [] else []) = _
  rfl
 | f + 1, i => by
  have ih := lfK_snoc (T := T) (kept := kept) (t := t) (f := f) (i := i + 1)
  rw [show i + 1 + f = i + (f + 1) by omega] at ih
  rw [lfK, ih]
  rw [show lfK T kept t (f + 1) i = if T.getD i [] = t ∧ (i : Int) ∉ kept then (i : Int) :: lfK T kept t f (i + 1) else lfK T kept t f (i + 1) from rfl]
  by_cases hc : T.getD i [] = t ∧ (i : Int) ∉ kept
  · rw [if_pos hc, if_pos hc, List.cons_append]
  · rw [if_neg hc, if_neg hc]
theorem lft_none {T : List Txt} {kept : List Int} {t : Txt} (h : fndK T kept t = none) : lftL T kept t = [] := lfK_none h
theorem lft_some {T : List Txt} {kept : List Int} {t : Txt} {k : Nat} (h : fndK T kept t = some k) : lftL T kept t = (k : Int) :: lftL T (kept ++ [(k : Int)]) t := lfK_some h
theorem lft_other {T : List Txt} {kept : List Int} {t : Txt} {k : Nat} (h : T.getD k [] ≠ t) : lftL T (kept ++ [(k : Int)]) t = lftL T kept t := lfK_other h
theorem lft_len (T : List Txt) (kept : List Int) (t : Txt) : (lftL T kept t).length ≤ T.length := lfK_len
theorem lft_count (T : List Txt) (kept : List Int) (t : Txt) (b : Nat) : (lftL T kept t).count (b : Int) = if b < T.length ∧ T.getD b [] = t ∧ (b : Int) ∉ kept then 1 else 0 := by
 unfold lftL
 rw [lfK_count]
 by_cases hc : b < T.length ∧ T.getD b [] = t ∧ (b : Int) ∉ kept
 · rw [if_pos hc, if_pos ⟨Nat.zero_le _, by omega, hc.2⟩]
 · rw [if_neg hc, if_neg (fun h => hc ⟨by omega, h.2.2⟩)]
theorem lft_nat {T : List Txt} {kept : List Int} {t : Txt} {x : Int} (h : x ∈ lftL T kept t) : ∃ k : Nat, x = (k : Int) ∧ k < T.length := by
 obtain ⟨k, h1, _, h3⟩ := lfK_mem h
 exact ⟨k, h1, by omega⟩
/-- the numbers of a text among the first m -/
def grpL (T : List Txt) (t : Txt) (m : Nat) : List Int := lfK T [] t m 0
theorem grp_len (T : List Txt) (t : Txt) (m : Nat) : (grpL T t m).length ≤ m := lfK_len
theorem grp_same (T : List Txt) (m : Nat) : grpL T (T.getD m []) (m + 1) = grpL T (T.getD m []) m ++ [(m : Int)] := by
 unfold grpL
 rw [lfK_snoc, Nat.zero_add, if_pos ⟨rfl, List.not_mem_nil⟩]
theorem grp_other {T : List Txt} {t : Txt} {m : Nat} (h : T.getD m [] ≠ t) : grpL T t (m + 1) = grpL T t m := by
 unfold grpL
 rw [lfK_snoc, Nat.zero_add, if_neg (fun k => h k.1), List.append_nil]
theorem grp_ne {T : List Txt} (m : Nat) : grpL T (T.getD m []) (m + 1) ≠ [] := by
 rw [grp_same]
 exact fun h => by cases (List.append_eq_nil_iff.1 h).2
/-- what is left, sorted -/
theorem gone_sorted {l : List Int} {n : Nat} {kept : List Int} (hn : ∀ x ∈ l, ∃ k : Nat, x = (k : Int)) (hc : ∀ b : Nat, l.count (b : Int) = if b < n ∧ (b : Int) ∉ kept then 1 else 0) : msL l = outL n kept := by
 have hp : l.Perm (outL n kept) := by
  rw [List.perm_iff_count]
  intro a
  by_cases ha : ∃ b : Nat, a = (b : Int)
  · obtain ⟨b, rfl⟩ := ha
    rw [hc, outL_count]
  · rw [List.count_eq_zero_of_not_mem (fun h => ha (hn a h)), List.count_eq_zero_of_not_mem (fun h => by
     unfold outL at h
     obtain ⟨k, _, e⟩ := List.mem_map.1 ((List.mem_filter.1 h).1)
     exact ha ⟨k, e.symm⟩)]
 refine List.Perm.eq_of_pairwise (le := fun x y : Int => x ≤ y) (fun a b _ _ h1 h2 => by omega) ?_ ?_ ((List.mergeSort_perm l _).trans hp)
 · have := List.pairwise_mergeSort (le := fun x y : Int => decide (x ≤ y)) (fun a b c h1 h2 => by
    rw [decide_eq_true_eq] at h1 h2 ⊢; omega) (fun a b => by
    rw [Bool.or_eq_true, decide_eq_true_eq, decide_eq_true_eq]; omega) l
   exact this.imp (fun h => of_decide_eq_true h)
 · unfold outL
   refine List.Pairwise.filter _ ?_
   rw [List.pairwise_map]
   exact List.pairwise_lt_range.imp (fun h => by omega)

end Go.Proofs.YtloaikjealcbmaaGreat
namespace Go.Proofs.YtloaikjealcbmaaGreat
open Go.RowKit Go.Maps Go.Sort

set_option maxRecDepth 20000 in
theorem zeroIs (w : World) : (zeroValue 32).run Tryz.prog w = .ok (.slice none 0 0) w := by kernel_rfl
theorem own_parts {w : World} {B : Nat} {v : Value} {l : List Int} (h : Own w B v l) (hl : l ≠ []) : ∃ g c, v = .slice (some ⟨g, 0, none⟩) l.length c := by
 rcases h.2 with ⟨_, h0⟩ | ⟨g, cap, cur, e, _⟩
 · exact absurd (List.length_eq_zero_iff.1 h0) hl
 · exact ⟨g, cap, e⟩
/-- the map while it is filled: each text's numbers in a row of its own -/
structure L1M (τ : Nat → Txt) (W w : World) (cb mb n m : Nat) (T : List Txt) (D : HDat) : Prop where
 blk : w.heap[cb]? = some (.cells #[.slice none 0 0, .slice none 0 0, .slice none 0 0, .bool false, .bool false, .bool false] 34)
 low : Below W.heap.size W w
 c0 : W.heap.size ≤ cb
 cm : cb < mb
 mp : HMp w mb n D
 yes : ∀ t : Txt, Maps.has D (kyT t) = true → ∃ a c, (∀ z, D.atKey (kyT t) z = .held (.slice a (grpL T t m).length c)) ∧ Own w (mb + 1) (.slice a (grpL T t m).length c) (grpL T t m) ∧ grpL T t m ≠ [] ∧ ∀ k, (Value.slice a (grpL T t m).length c).ownBlock = some k → τ k = t
 no : ∀ t : Txt, Maps.has D (kyT t) = false → grpL T t m = []
section
variable {τ : Nat → Txt} {W w : World} {cb mb n m : Nat} {T : List Txt} {D : HDat}
theorem L1M.keep (h : L1M τ W w cb mb n m T D) {u : World} (hu : Below w.heap.size w u) : L1M τ W u cb mb n m T D :=
 ⟨hs_keep h.blk hu, bl_step h.low hu, h.c0, h.cm, h.mp.below hu, fun t ht => by
  obtain ⟨a, c, h1, h2, h3⟩ := h.yes t ht
  exact ⟨a, c, h1, own_below h2 hu, h3⟩, h.no⟩
theorem L1M.start {W : World} (hb : w.heap[cb]? = some (.cells #[.slice none 0 0, .slice none 0 0, .slice none 0 0, .bool false, .bool false, .bool false] 34)) (hl : Below W.heap.size W w) (hc : W.heap.size ≤ cb) (hm : HMp w mb 0 (.map [])) (hcm : cb < mb) (T : List Txt) : L1M (fun _ => []) W w cb mb 0 0 T (.map []) :=
 ⟨hb, hl, hc, hcm, hm, fun t ht => (by cases ht), fun t _ => rfl⟩
set_option maxRecDepth 20000 in
/-- one round: the look-up, the append, the store -/
theorem L1M.round (h : L1M τ W w cb mb n m T D) (hn : n ≤ 1000) (hm : m ≤ 1000) (t : Txt) (hT : T.getD m [] = t) (ht : t.length ≤ 1000000) :
 ∃ a l c, (Instr.lookup 96 (.map (some mb)) (.string (strT t)) false).run Tryz.prog w = .ok (.slice a l c) w ∧
  ∃ v' w2, (Builtin.append_ #[32, 32] 32 #[.slice a l c, .slice (some ⟨w.heap.size, 0, none⟩) 1 1]).run Tryz.prog (w.alloc (.cells #[.int .i64 (m : Int)] 3)) = .ok v' w2 ∧
   ∃ w3, (Instr.mapUpdate 96 (.map (some mb)) (.string (strT t)) v').run Tryz.prog w2 = .ok () w3 ∧ ∃ τ', L1M τ' W w3 cb mb (n + 1) (m + 1) T (D.put (kyT t) (.held v')) := by
 subst hT
 obtain ⟨i0, hi, hz0, hz1, hz2⟩ := info_parts Tryz.info3
 obtain ⟨v, ps, hrun, hR⟩ := h.mp.lookup keyS Tryz.underlying96 (zeroIs w) (zd := .held (.slice none 0 0)) (zp := []) rfl (keyT _ ht)
 have hml := h.mp.lt
 -- what is there
 obtain ⟨a, c, hv, hO, hτ⟩ : ∃ a c, v = .slice a (grpL T (T.getD m []) m).length c ∧ Own w (mb + 1) (.slice a (grpL T (T.getD m []) m).length c) (grpL T (T.getD m []) m) ∧ ∀ k, (Value.slice a (grpL T (T.getD m []) m).length c).ownBlock = some k → τ k = T.getD m [] := by
  cases hh : Maps.has D (kyT (T.getD m []))
  · have e := h.no _ hh
    rw [atKey_of_not_has hh] at hR
    refine ⟨none, 0, ?_, ?_, ?_⟩
    · rw [heldR_inv hR, e]
      rfl
    · rw [e]
      exact World.ownsRow_nil _ _ _ _
    · intro k hk
      cases hk
  · obtain ⟨a, c, h1, h2, h3, h4⟩ := h.yes _ hh
    rw [h1] at hR
    exact ⟨a, c, heldR_inv hR, h2, h4⟩
 subst hv
 refine ⟨a, _, c, hrun, ?_⟩
 have hlen := grp_len T (T.getD m []) m
 have hal := al' w (.cells #[.int .i64 (m : Int)] 3)
 have hOa := hO.alloc (.cells #[.int .i64 (m : Int)] 3)
 obtain ⟨v', w2, hap, hown, hgr, hnil, hloc⟩ := run_append_own_at (P := Tryz.prog) (w.alloc (.cells #[.int .i64 (m : Int)] 3)) (mb + 1) 32 32 3 i0 (.int .i64 0) 1 8 Tryz.underlying32 hi hz0 hz1 hz2 rfl (by decide) _ _ _ hOa ⟨w.heap.size, 0, none⟩ 1 1 [.int .i64 (m : Int)] rfl (World.news_of_block (heap_new w (.cells #[.int .i64 (m : Int)] 3))) (by simp [Value.oneCell']) (by unfold maxLen; omega) (by omega) (by rw [World.size_alloc]; omega)
 refine ⟨v', w2, hap, ?_⟩
 have hgs := grp_same T m
 have hown' : Own w2 (mb + 1) v' (grpL T (T.getD m []) (m + 1)) := by
  unfold Own
  rw [hgs, numCells_snoc, List.length_append]
  exact hown
 have hmp2 : HMp w2 mb n D := (h.mp.below hal).kept hgr (fun e => by
  have := (hO.lt mb e.symm).1
  omega)
 obtain ⟨w3, hup, hM3, hg3⟩ := hmp2.update keyS Tryz.underlying96 (by unfold maxLen; omega) (keyT _ ht) (val := v') (d := .held v') (ps := []) rfl
 obtain ⟨a', c', hv'⟩ : ∃ a' c', v' = .slice a' (grpL T (T.getD m []) (m + 1)).length c' := by
  obtain ⟨g, c', e⟩ := own_parts hown' (grp_ne m)
  exact ⟨_, c', e⟩
 have hmbrow : ∀ {v : Value} {l : List Int} {u : World}, Own u (mb + 1) v l → v.ownBlock = none ∨ v.ownBlock ≠ some mb := fun {v l u} ho => by
  cases hk : v.ownBlock with
  | none => exact .inl rfl
  | some k =>
   refine .inr (fun e => ?_)
   injection e with e
   have := (ho.lt k hk).1
   omega
 have hws : (w.alloc (.cells #[.int .i64 (m : Int)] 3)).heap.size = w.heap.size + 1 := World.size_alloc _ _
 rw [hws] at hloc
 refine ⟨w3, hup, fun k => if k = w.heap.size + 1 then T.getD m [] else τ k, ?_⟩
 have hcbrow : some cb ≠ (Value.slice a (grpL T (T.getD m []) m).length c).ownBlock := fun e => by
  have := (hO.lt cb e.symm).1
  have := h.cm
  omega
 have hb1 : w2.heap[cb]? = some (.cells #[.slice none 0 0, .slice none 0 0, .slice none 0 0, .bool false, .bool false, .bool false] 34) := (hgr.block cb (blk_lt (hs_keep h.blk hal)) hcbrow).trans (hs_keep h.blk hal)
 refine ⟨(hg3.block cb (blk_lt hb1) (fun e => by have := h.cm; injection e with e; omega)).trans hb1, ?_, h.c0, h.cm, hM3, fun t ht9 => ?_, fun t ht9 => ?_⟩
 · have h1 : Below W.heap.size W w2 := (bl_step h.low hal).grown hgr (bl_step h.low hal).size (fun k hk => by
    have := (hO.lt k hk).1
    have := h.c0
    have := h.cm
    omega)
   exact h1.grown hg3 h1.size (fun k hk => by cases hk; have := h.c0; have := h.cm; omega)
 · by_cases e : t = T.getD m []
   · subst e
     refine ⟨a', c', fun z => ?_, ?_, grp_ne m, ?_⟩
     · rw [← hv']
       exact atKey_put_same h.mp.isMap (kyT_lit _) _ _
     · rw [← hv']
       exact hown'.kept hg3 (hmbrow hown')
     · rw [← hv']
       intro k hk
       rcases hloc with hl | hl
       · rw [hl] at hk
         have := (hO.lt k hk).2
         show (if k = w.heap.size + 1 then _ else τ k) = _
         rw [if_neg (by omega)]
         exact hτ k hk
       · rw [hl] at hk
         injection hk with hk
         show (if k = w.heap.size + 1 then _ else τ k) = _
         rw [if_pos hk.symm]
   · have hne := kyT_ne e
     rw [has_put_other hne] at ht9
     obtain ⟨b, d, h1, h2, h3, h4⟩ := h.yes t ht9
     rw [grp_other (fun e9 => e e9.symm)]
     refine ⟨b, d, fun z => by rw [atKey_put_other hne]; exact h1 z, ?_, h3, fun k hk => ?_⟩
     · have hoff : (Value.slice b (grpL T t m).length d).ownBlock = none ∨ (Value.slice b (grpL T t m).length d).ownBlock ≠ (Value.slice a (grpL T (T.getD m []) m).length c).ownBlock := by
        cases hk : (Value.slice b (grpL T t m).length d).ownBlock with
        | none => exact .inl rfl
        | some k => exact .inr (fun e9 => e ((h4 k hk).symm.trans (hτ k e9.symm)))
       have h5 := (h2.alloc (.cells #[.int .i64 (m : Int)] 3)).kept hgr hoff
       exact World.ownsRow.kept h5 hg3 (hmbrow (l := grpL T t m) h5)
     · have := (h2.lt k hk).2
       show (if k = w.heap.size + 1 then _ else τ k) = _
       rw [if_neg (by omega)]
       exact h4 k hk
 · by_cases e : t = T.getD m []
   · subst e
     rw [has_put_same h.mp.isMap (kyT_lit _)] at ht9
     cases ht9
   · rw [has_put_other (kyT_ne e)] at ht9
     rw [grp_other (fun e9 => e e9.symm)]
     exact h.no t ht9
end

end Go.Proofs.YtloaikjealcbmaaGreat
namespace Go.Proofs.YtloaikjealcbmaaGreat
open Go.RowKit Go.Maps Go.Sort

/-- numbers in a row of cells, from block B on -/
def RowAt (w : World) (B : Nat) (v : Value) (l : List Int) : Prop := ∃ b o c, v = .slice (some ⟨b, o, none⟩) l.length c ∧ B ≤ b ∧ b < w.heap.size ∧ l.length ≤ c ∧ ∀ j (h : j < l.length), w.cell? ⟨b, o + j, none⟩ = some (.int .i64 l[j])
theorem RowAt.of_own {w : World} {B : Nat} {v : Value} {l : List Int} (h : Own w B v l) (hl : l ≠ []) : RowAt w B v l := by
 have h0 : 0 < l.length := List.length_pos_iff.2 hl
 obtain ⟨g, c, e⟩ := own_parts h hl
 obtain ⟨b, o, c', e', h1, h2, h3⟩ := (Nums.of_row h).at h0
 rw [e] at e'
 injection e' with e1 _ e2
 injection e1 with e1
 injection e1 with e1 e3 _
 subst e1 e2 e3
 exact ⟨g, 0, c, e, (h.lt g (by rw [e]; rfl)).1, h2, h1, h3⟩
/-- the change, its rows, the map, and the rows that the map leads to -/
structure L2M (τ : Nat → Nat) (W w2 w : World) (cb mb n : Nat) (TG : List Txt) (kept : List Int) (kv gv nv : Value) (prs : List (Int × Int)) (gone new : List Int) (D : HDat) : Prop where
 ch : ChO τ W w cb (.slice none 0 0) kv gv nv [] prs gone new false false false
 mp : HMp w mb n D
 tm : τ mb = 5
 tr : ∀ k, mb < k → k < w2.heap.size → τ k = 9
 rw : ∀ k, mb < k → k < w2.heap.size → w.heap[k]? = w2.heap[k]?
 mz : w2.heap.size ≤ w.heap.size
 ml : mb < w2.heap.size
 cl : W.heap.size ≤ mb
 yes : ∀ t : Txt, Maps.has D (kyT t) = true → lftL TG kept t ≠ [] ∧ ∃ v, (∀ z, D.atKey (kyT t) z = .held v) ∧ RowAt w2 (mb + 1) v (lftL TG kept t)
 no : ∀ t : Txt, Maps.has D (kyT t) = false → lftL TG kept t = []
theorem L2M.start {τ : Nat → Txt} {W w : World} {cb mb n : Nat} {TG : List Txt} {D : HDat} (h : L1M τ W w cb mb n TG.length TG D) :
 L2M (fun k => if k = cb then 0 else if k = mb then 5 else 9) W w w cb mb n TG [] (.slice none 0 0) (.slice none 0 0) (.slice none 0 0) [] [] [] D := by
 have hcm := h.cm
 refine ⟨⟨h.blk, h.low, h.c0, World.ownsRow_nil _ _ _ _, World.ownsRow_nil _ _ _ _, World.ownsRow_nil _ _ _ _, World.ownsRow_nil _ _ _ _, if_pos rfl, fun _ h => (by cases h), fun _ h => (by cases h), fun _ h => (by cases h), fun _ h => (by cases h)⟩, h.mp, ?_, ?_, fun _ _ _ => rfl, Nat.le_refl _, h.mp.lt, by have := h.c0; omega, ?_, h.no⟩
 · show (if mb = cb then 0 else if mb = mb then 5 else 9) = 5
   rw [if_neg (by omega), if_pos rfl]
 · intro k h1 _
   show (if k = cb then 0 else if k = mb then 5 else 9) = 9
   rw [if_neg (by omega), if_neg (by omega)]
 · intro t ht
   obtain ⟨a, c, h1, h2, h3, _⟩ := h.yes t ht
   exact ⟨h3, _, h1, RowAt.of_own h2 h3⟩
theorem ChO.retag {τ τ' : Nat → Nat} {w0 w : World} {cb : Nat} {tv kv gv nv : Value} {kept : List Int} {prs : List (Int × Int)} {gone new : List Int} {a b s : Bool} (h : ChO τ w0 w cb tv kv gv nv kept prs gone new a b s) (ht : ∀ k, k < w.heap.size → τ' k = τ k) : ChO τ' w0 w cb tv kv gv nv kept prs gone new a b s :=
 ⟨h.blk, h.low, h.c0, h.kt, h.pr, h.go, h.nw, (ht cb (blk_lt h.blk)).trans h.t0, fun k e => (ht k (h.kt.lt k e).2).trans (h.t1 k e), fun k e => (ht k (h.pr.lt k e).2).trans (h.t2 k e), fun k e => (ht k (h.go.lt k e).2).trans (h.t3 k e), fun k e => (ht k (h.nw.lt k e).2).trans (h.t4 k e)⟩
/-- many more are gone -/
theorem ChO.pushL {τ : Nat → Nat} {w0 w : World} {cb : Nat} {tv kv gv nv : Value} {kept : List Int} {prs : List (Int × Int)} {gone new : List Int} {a b s : Bool} (h : ChO τ w0 w cb tv kv gv nv kept prs gone new a b s) {u : World} {l : List Int} {g cap : Nat} (ho : u.ownsRow w0.heap.size 3 1 (.slice (some ⟨g, 0, none⟩) (gone.length + l.length) cap) (gone.length + l.length) (numCells gone ++ numCells l)) (hg : w.grownBy u gv.ownBlock) (hat : gv.ownBlock = some g ∨ g = w.heap.size) :
 (u.cell? ⟨cb, 1, none⟩ = some gv ∧ u.frozen? ⟨cb, 1, none⟩ = false) ∧ ChO (updT τ w.heap.size 3) w0 (u.setCell ⟨cb, 1, none⟩ (.slice (some ⟨g, 0, none⟩) (gone.length + l.length) cap)) cb tv kv (.slice (some ⟨g, 0, none⟩) (gone.length + l.length) cap) nv kept prs (gone ++ l) new a b s := by
 have hb : u.heap[cb]? = some (.cells #[kv, gv, nv, .bool a, .bool b, .bool s] 34) := (hg.block cb (blk_lt h.blk) (tag_ne h.t3 h.t0 (by decide))).trans h.blk
 have t0' : updT τ w.heap.size 3 cb = 0 := by rw [updT_low (blk_lt h.blk)]; exact h.t0
 have t3' := tag_new (n := gone.length + l.length) (c := cap) h.t3 hat
 refine ⟨⟨blk_cell hb rfl, blk_frozen hb 1⟩, ?_⟩
 exact {
  blk := by rw [heap_setCell hb]; rfl
  low := bl_set (below_grown h.low h.go hg) _ _ _ h.c0
  c0 := h.c0
  kt := own_setCell (h.kt.kept hg (tag_off h.t1 h.t3 (by decide))) (tag_ne h.t1 h.t0 (by decide))
  pr := own_setCell (h.pr.kept hg (tag_off h.t2 h.t3 (by decide))) (tag_ne h.t2 h.t0 (by decide))
  go := own_setCell (by rw [numCells_app, List.length_append]; exact ho) (tag_ne t3' t0' (by decide))
  nw := own_setCell (h.nw.kept hg (tag_off h.t4 h.t3 (by decide))) (tag_ne h.t4 h.t0 (by decide))
  t0 := t0'
  t1 := tag_old h.t1 fun k e => (h.kt.lt k e).2
  t2 := tag_old h.t2 fun k e => (h.pr.lt k e).2
  t3 := t3'
  t4 := tag_old h.t4 fun k e => (h.nw.lt k e).2 }
section
variable {τ : Nat → Nat} {W w2 w : World} {cb mb n : Nat} {TG : List Txt} {kept : List Int} {kv gv nv : Value} {prs : List (Int × Int)} {gone new : List Int} {D : HDat}
theorem L2M.frame (h : L2M τ W w2 w cb mb n TG kept kv gv nv prs gone new D) {τ' : Nat → Nat} {u : World} {kv' gv' nv' : Value} {prs' : List (Int × Int)} {gone' new' : List Int} (hc : ChO τ' W u cb (.slice none 0 0) kv' gv' nv' [] prs' gone' new' false false false)
 (hs : ∀ k, k < w.heap.size → 5 ≤ τ k → u.heap[k]? = w.heap[k]?) (ht : ∀ k, k < w.heap.size → τ' k = τ k) (hz : w.heap.size ≤ u.heap.size) : L2M τ' W w2 u cb mb n TG kept kv' gv' nv' prs' gone' new' D := by
 have hml := h.mp.lt
 have hmz := h.mz
 refine ⟨hc, ?_, (ht mb hml).trans h.tm, fun k h1 h2 => (ht k (by omega)).trans (h.tr k h1 h2), fun k h1 h2 => (hs k (by omega) (by rw [h.tr k h1 h2]; decide)).trans (h.rw k h1 h2), by omega, h.ml, h.cl, h.yes, h.no⟩
 obtain ⟨es, clock, e1, e2⟩ := h.mp
 exact ⟨es, clock, (hs mb hml (by rw [h.tm]; decide)).trans e1, e2⟩
theorem L2M.keep (h : L2M τ W w2 w cb mb n TG kept kv gv nv prs gone new D) {u : World} (hu : Below w.heap.size w u) : L2M τ W w2 u cb mb n TG kept kv gv nv prs gone new D :=
 h.frame (h.ch.keep hu) (fun k hk _ => hu.block k hk) (fun _ _ => rfl) hu.size
theorem tag_grown {τ : Nat → Nat} {v : Value} {u u' : World} {cb i o : Nat} {x : Value} (hg : w.grownBy u v.ownBlock) (hv : ∀ k, v.ownBlock = some k → τ k = i) (hi : i < 5) (hc : τ cb = 0) (e : u' = u.setCell ⟨cb, o, none⟩ x) : ∀ k, k < w.heap.size → 5 ≤ τ k → u'.heap[k]? = w.heap[k]? := fun k hk h5 => by
 subst e
 have hkc : k ≠ cb := fun e => by subst e; omega
 refine (Below.heap_setCell _ _ _ _ hkc).trans (hg.block k hk (fun e => ?_))
 have := hv k e.symm
 omega
theorem size_set {u : World} {a : Addr} {x : Value} : (u.setCell a x).heap.size = u.heap.size := by simp
theorem L2M.pushN (h : L2M τ W w2 w cb mb n TG kept kv gv nv prs gone new D) {u : World} {x : Int} {g cap : Nat} (ho : u.ownsRow W.heap.size 3 1 (.slice (some ⟨g, 0, none⟩) (new.length + 1) cap) (new.length + 1) (numCells new ++ [.int .i64 x])) (hg : w.grownBy u nv.ownBlock) (hat : nv.ownBlock = some g ∨ g = w.heap.size) :
 (u.cell? ⟨cb, 2, none⟩ = some nv ∧ u.frozen? ⟨cb, 2, none⟩ = false) ∧ L2M (updT τ w.heap.size 4) W w2 (u.setCell ⟨cb, 2, none⟩ (.slice (some ⟨g, 0, none⟩) (new.length + 1) cap)) cb mb n TG kept kv gv (.slice (some ⟨g, 0, none⟩) (new.length + 1) cap) prs gone (new ++ [x]) D := by
 obtain ⟨h1, h2⟩ := h.ch.pushN ho hg hat
 exact ⟨h1, h.frame h2 (tag_grown hg h.ch.t4 (by decide) h.ch.t0 rfl) (fun k hk => updT_low hk) (by rw [size_set]; exact hg.size)⟩
theorem L2M.pushK (h : L2M τ W w2 w cb mb n TG kept kv gv nv prs gone new D) {u : World} {x y : Int} {g cap : Nat} (ho : u.ownsRow W.heap.size 41 2 (.slice (some ⟨g, 0, none⟩) (prs.length + 1) cap) (prs.length + 1) (prCells prs ++ [.int .i64 x, .int .i64 y])) (hg : w.grownBy u kv.ownBlock) (hat : kv.ownBlock = some g ∨ g = w.heap.size) :
 (u.cell? ⟨cb, 0, none⟩ = some kv ∧ u.frozen? ⟨cb, 0, none⟩ = false) ∧ L2M (updT τ w.heap.size 2) W w2 (u.setCell ⟨cb, 0, none⟩ (.slice (some ⟨g, 0, none⟩) (prs.length + 1) cap)) cb mb n TG kept (.slice (some ⟨g, 0, none⟩) (prs.length + 1) cap) gv nv (prs ++ [(x, y)]) gone new D := by
 obtain ⟨h1, h2⟩ := h.ch.pushK ho hg hat
 exact ⟨h1, h.frame h2 (tag_grown hg h.ch.t2 (by decide) h.ch.t0 rfl) (fun k hk => updT_low hk) (by rw [size_set]; exact hg.size)⟩
theorem L2M.pushL (h : L2M τ W w2 w cb mb n TG kept kv gv nv prs gone new D) {u : World} {l : List Int} {g cap : Nat} (ho : u.ownsRow W.heap.size 3 1 (.slice (some ⟨g, 0, none⟩) (gone.length + l.length) cap) (gone.length + l.length) (numCells gone ++ numCells l)) (hg : w.grownBy u gv.ownBlock) (hat : gv.ownBlock = some g ∨ g = w.heap.size) :
 (u.cell? ⟨cb, 1, none⟩ = some gv ∧ u.frozen? ⟨cb, 1, none⟩ = false) ∧ L2M (updT τ w.heap.size 3) W w2 (u.setCell ⟨cb, 1, none⟩ (.slice (some ⟨g, 0, none⟩) (gone.length + l.length) cap)) cb mb n TG kept kv (.slice (some ⟨g, 0, none⟩) (gone.length + l.length) cap) nv prs (gone ++ l) new D := by
 obtain ⟨h1, h2⟩ := h.ch.pushL ho hg hat
 exact ⟨h1, h.frame h2 (tag_grown hg h.ch.t3 (by decide) h.ch.t0 rfl) (fun k hk => updT_low hk) (by rw [size_set]; exact hg.size)⟩
set_option maxRecDepth 20000 in
theorem L2M.lookNo (h : L2M τ W w2 w cb mb n TG kept kv gv nv prs gone new D) {t : Txt} (ht : t.length ≤ 1000000) (hf : fndK TG kept t = none) :
 (Instr.lookup 96 (.map (some mb)) (.string (strT t)) true).run Tryz.prog w = .ok (.tuple #[.slice none 0 0, .bool false]) w := by
 have hh : Maps.has D (kyT t) = false := by
  cases hh : Maps.has D (kyT t)
  · rfl
  · exact absurd (lft_none hf) (h.yes t hh).1
 obtain ⟨v, ps, hrun, hR⟩ := h.mp.look_ok keyS Tryz.underlying96 (zeroIs w) (zd := .held (.slice none 0 0)) (zp := []) rfl (keyT _ ht)
 rw [atKey_of_not_has hh] at hR
 have hh : Maps.has D (Lit.string t) = false := hh
 rw [hrun, heldR_inv hR, hh]
set_option maxRecDepth 20000 in
theorem L2M.lookYes (h : L2M τ W w2 w cb mb n TG kept kv gv nv prs gone new D) {t : Txt} {k : Nat} (ht : t.length ≤ 1000000) (hf : fndK TG kept t = some k) :
 ∃ b o c, (Instr.lookup 96 (.map (some mb)) (.string (strT t)) true).run Tryz.prog w = .ok (.tuple #[.slice (some ⟨b, o, none⟩) ((lftL TG (kept ++ [(k : Int)]) t).length + 1) c, .bool true]) w ∧ mb < b ∧ b < w2.heap.size ∧ (lftL TG (kept ++ [(k : Int)]) t).length + 1 ≤ c ∧ w2.cell? ⟨b, o, none⟩ = some (.int .i64 (k : Int)) ∧ ∀ j (h : j < (lftL TG (kept ++ [(k : Int)]) t).length), w2.cell? ⟨b, o + 1 + j, none⟩ = some (.int .i64 (lftL TG (kept ++ [(k : Int)]) t)[j]) := by
 have hs := lft_some hf
 have hh : Maps.has D (kyT t) = true := by
  cases hh : Maps.has D (kyT t)
  · rw [h.no t hh] at hs
    cases hs
  · rfl
 obtain ⟨-, v, h1, b, o, c, e, h2, h3, h4, h5⟩ := h.yes t hh
 obtain ⟨v', ps, hrun, hR⟩ := h.mp.look_ok keyS Tryz.underlying96 (zeroIs w) (zd := .held (.slice none 0 0)) (zp := []) rfl (keyT _ ht)
 have hR : heldR v' = some (.held v, ps) := by rw [← h1 (.held (.slice none 0 0))]; exact hR
 have hh : Maps.has D (Lit.string t) = true := hh
 have hl : (lftL TG kept t).length = (lftL TG (kept ++ [(k : Int)]) t).length + 1 := by rw [hs, List.length_cons]
 refine ⟨b, o, c, ?_, by omega, h3, by omega, ?_, fun j hj => ?_⟩
 · rw [hrun, heldR_inv hR, hh, e, hl]
 · have := h5 0 (by omega)
   rw [Nat.add_zero] at this
   rw [this]
   congr 2
   simp only [hs, List.getElem_cons_zero]
 · have := h5 (j + 1) (by omega)
   rw [show o + 1 + j = o + (j + 1) by omega, this]
   congr 2
   simp only [hs, List.getElem_cons_succ]
theorem L2M.cell (h : L2M τ W w2 w cb mb n TG kept kv gv nv prs gone new D) {b o : Nat} {v : Value} (h1 : mb < b) (h2 : b < w2.heap.size) (hc : w2.cell? ⟨b, o, none⟩ = some v) : w.cell? ⟨b, o, none⟩ = some v := by
 have e := h.rw b h1 h2
 unfold World.cell? at hc ⊢
 rw [e]
 exact hc
set_option maxRecDepth 20000 in
/-- one that was first of its text's is kept: others of it are left -/
theorem L2M.putMore (h : L2M τ W w2 w cb mb n TG kept kv gv nv prs gone new D) {t : Txt} {k b o c : Nat} (ht : t.length ≤ 1000000) (hn : n ≤ 1000) (hf : fndK TG kept t = some k) (hl : lftL TG (kept ++ [(k : Int)]) t ≠ []) (h1 : mb < b) (h2 : b < w2.heap.size) (h3 : (lftL TG (kept ++ [(k : Int)]) t).length ≤ c) (h4 : ∀ j (h : j < (lftL TG (kept ++ [(k : Int)]) t).length), w2.cell? ⟨b, o + j, none⟩ = some (.int .i64 (lftL TG (kept ++ [(k : Int)]) t)[j])) :
 ∃ w', (Instr.mapUpdate 96 (.map (some mb)) (.string (strT t)) (.slice (some ⟨b, o, none⟩) (lftL TG (kept ++ [(k : Int)]) t).length c)).run Tryz.prog w = .ok () w' ∧ w.grownBy w' (some mb) ∧
  L2M τ W w2 w' cb mb (n + 1) TG (kept ++ [(k : Int)]) kv gv nv prs gone new (D.put (kyT t) (.held (.slice (some ⟨b, o, none⟩) (lftL TG (kept ++ [(k : Int)]) t).length c))) := by
 obtain ⟨w', hup, hM, hg⟩ := h.mp.update keyS Tryz.underlying96 (by unfold maxLen; omega) (keyT _ ht) (val := .slice (some ⟨b, o, none⟩) (lftL TG (kept ++ [(k : Int)]) t).length c) (d := .held (.slice (some ⟨b, o, none⟩) (lftL TG (kept ++ [(k : Int)]) t).length c)) (ps := []) rfl
 have hkt := (fndK_some hf).2.1
 have hne : ∀ j, j < w.heap.size → τ j ≠ 5 → w'.heap[j]? = w.heap[j]? := fun j hj h5 => hg.block j hj (fun e => h5 (by injection e with e; rw [e]; exact h.tm))
 have hB : ∀ {v : Value} {i : Nat}, (∀ j, v.ownBlock = some j → τ j = i) → i ≠ 5 → v.ownBlock = none ∨ v.ownBlock ≠ some mb := fun {v i} hv hi => by
  cases hk : v.ownBlock with
  | none => exact .inl rfl
  | some j => exact .inr (fun e => by injection e with e; have := hv j hk; rw [e, h.tm] at this; exact hi this.symm)
 have hcb := hne cb (blk_lt h.ch.blk) (by rw [h.ch.t0]; decide)
 refine ⟨w', hup, hg, ⟨⟨hcb.trans h.ch.blk, h.ch.low.grown hg h.ch.low.size (fun j hj => by cases hj; exact h.cl), h.ch.c0, World.ownsRow_nil _ _ _ _, h.ch.pr.kept hg (hB h.ch.t2 (by decide)), h.ch.go.kept hg (hB h.ch.t3 (by decide)), h.ch.nw.kept hg (hB h.ch.t4 (by decide)), h.ch.t0, h.ch.t1, h.ch.t2, h.ch.t3, h.ch.t4⟩, hM, h.tm, h.tr, fun j j1 j2 => ?_, Nat.le_trans h.mz hg.size, h.ml, h.cl, fun s hs => ?_, fun s hs => ?_⟩⟩
 · have := h.mz
   exact (hne j (by omega) (by rw [h.tr j j1 j2]; decide)).trans (h.rw j j1 j2)
 · by_cases e : s = t
   · subst e
     exact ⟨hl, _, fun z => atKey_put_same h.mp.isMap (kyT_lit _) _ _, b, o, c, rfl, h1, h2, h3, h4⟩
   · rw [has_put_other (kyT_ne e)] at hs
     rw [lft_other (fun e9 => e (e9.symm.trans hkt))]
     obtain ⟨a1, v, a2, a3⟩ := h.yes s hs
     exact ⟨a1, v, fun z => by rw [atKey_put_other (kyT_ne e)]; exact a2 z, a3⟩
 · by_cases e : s = t
   · subst e
     rw [has_put_same h.mp.isMap (kyT_lit _)] at hs
     cases hs
   · rw [has_put_other (kyT_ne e)] at hs
     rw [lft_other (fun e9 => e (e9.symm.trans hkt))]
     exact h.no s hs
set_option maxRecDepth 20000 in
/-- .. none of it is left: what was stored is deleted -/
theorem L2M.putLast (h : L2M τ W w2 w cb mb n TG kept kv gv nv prs gone new D) {t : Txt} {k : Nat} (v : Value) (ht : t.length ≤ 1000000) (hn : n ≤ 1000) (hf : fndK TG kept t = some k) (hl : lftL TG (kept ++ [(k : Int)]) t = []) :
 ∃ w', (Instr.mapUpdate 96 (.map (some mb)) (.string (strT t)) v).run Tryz.prog w = .ok () w' ∧ w.grownBy w' (some mb) ∧
  ∃ w'', (∀ ty, (Builtin.delete_ #[96, 9] ty #[.map (some mb), .string (strT t)]).run Tryz.prog w' = .ok (.tuple #[]) w'') ∧ L2M τ W w2 w'' cb mb (n + 1) TG (kept ++ [(k : Int)]) kv gv nv prs gone new ((D.put (kyT t) (.held v)).del (kyT t)) := by
 obtain ⟨w', hup, hM, hg⟩ := h.mp.update keyS Tryz.underlying96 (by unfold maxLen; omega) (keyT _ ht) (val := v) (d := .held v) (ps := []) rfl
 obtain ⟨w'', hdel0, hM2, htn⟩ := hM.drop keyS Tryz.underlying96 (keyT _ ht) 0
 have hdel : ∀ ty, (Builtin.delete_ #[96, 9] ty #[.map (some mb), .string (strT t)]).run Tryz.prog w' = .ok (.tuple #[]) w'' := fun ty => hdel0
 have hg2 := hg.trans htn.grown
 have hkt := (fndK_some hf).2.1
 have hne : ∀ j, j < w.heap.size → τ j ≠ 5 → w''.heap[j]? = w.heap[j]? := fun j hj h5 => hg2.block j hj (fun e => h5 (by injection e with e; rw [e]; exact h.tm))
 have hB : ∀ {v : Value} {i : Nat}, (∀ j, v.ownBlock = some j → τ j = i) → i ≠ 5 → v.ownBlock = none ∨ v.ownBlock ≠ some mb := fun {v i} hv hi => by
  cases hk : v.ownBlock with
  | none => exact .inl rfl
  | some j => exact .inr (fun e => by injection e with e; have := hv j hk; rw [e, h.tm] at this; exact hi this.symm)
 have hcb := hne cb (blk_lt h.ch.blk) (by rw [h.ch.t0]; decide)
 refine ⟨w', hup, hg, w'', hdel, ⟨⟨hcb.trans h.ch.blk, h.ch.low.grown hg2 h.ch.low.size (fun j hj => by cases hj; exact h.cl), h.ch.c0, World.ownsRow_nil _ _ _ _, h.ch.pr.kept hg2 (hB h.ch.t2 (by decide)), h.ch.go.kept hg2 (hB h.ch.t3 (by decide)), h.ch.nw.kept hg2 (hB h.ch.t4 (by decide)), h.ch.t0, h.ch.t1, h.ch.t2, h.ch.t3, h.ch.t4⟩, hM2, h.tm, h.tr, fun j j1 j2 => ?_, Nat.le_trans h.mz hg2.size, h.ml, h.cl, fun s hs => ?_, fun s hs => ?_⟩⟩
 · have := h.mz
   exact (hne j (by omega) (by rw [h.tr j j1 j2]; decide)).trans (h.rw j j1 j2)
 · by_cases e : s = t
   · subst e
     rw [has_del_same] at hs
     cases hs
   · rw [has_del_other (kyT_ne e), has_put_other (kyT_ne e)] at hs
     rw [lft_other (fun e9 => e (e9.symm.trans hkt))]
     obtain ⟨a1, v', a2, a3⟩ := h.yes s hs
     exact ⟨a1, v', fun z => by rw [atKey_del_other (kyT_ne e), atKey_put_other (kyT_ne e)]; exact a2 z, a3⟩
 · by_cases e : s = t
   · subst e
     exact hl
   · rw [has_del_other (kyT_ne e), has_put_other (kyT_ne e)] at hs
     rw [lft_other (fun e9 => e (e9.symm.trans hkt))]
     exact h.no s hs
end

end Go.Proofs.YtloaikjealcbmaaGreat
