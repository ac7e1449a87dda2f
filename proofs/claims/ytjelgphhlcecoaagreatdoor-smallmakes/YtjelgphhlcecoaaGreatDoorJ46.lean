/- small.kindsOf: which states are alike. States that were met, as numbers, beside an automaton that is filled; a row that is filled beside them. small.Make: which number the map tells of each kind. -/
import Derived.Test.YtjelgphhlcecoaaGreatDoorJ45
namespace Go.Proofs.YtjelgphhlcecoaaGreatDoor
open Go.RowKit Go.Maps

/-- the state at a place of a list of kinds -/
def stI (n k : Nat) : Nat := if k = 0 then n else k - 1
theorem stI_le {n k : Nat} (h : k ≤ n) : stI n k ≤ n := by unfold stI; split <;> omega
theorem inI_st {n k : Nat} (h : k ≤ n) : inI n (stI n k) = (k : Int) - 1 := by unfold inI stI; split <;> split <;> omega
theorem ix_st {n k : Nat} (h : k ≤ n) : ixK n (stI n k) = k := by unfold ixK stI; split <;> split <;> omega
theorem st_ix {n i : Nat} (h : i ≤ n) : stI n (ixK n i) = i := by unfold ixK stI; split <;> simp <;> omega
/-- kinds that tell what is told apart by texts of at most r bytes, and how many they are -/
structure KRel (N : List (List Int)) (A : List Int) (r : Nat) (K : List Int) (c : Nat) : Prop where
  len : K.length = N.length + 1
  ok : KOk K
  rel : ∀ i j, i ≤ N.length → j ≤ N.length → (K.getD (ixK N.length i) 0 = K.getD (ixK N.length j) 0 ↔ AlkK N A r i j)
  cnt : c = (distK (fun k => K.getD k 0) (N.length + 1)).length
theorem told_rel {κ : Type} [DecidableEq κ] {N : List (List Int)} {A : List Int} {r : Nat} {f : Nat → κ} (hn : N.length ≤ 240) (h : ∀ k l, k ≤ N.length → l ≤ N.length → (f k = f l ↔ AlkK N A r (stI N.length k) (stI N.length l))) : KRel N A r (kndK f (N.length + 1)) (distK f (N.length + 1)).length where
  len := kndK_len _ _
  ok := fun x hx => by
    rw [kndK_len] at hx
    have := kndK_lt f hx
    omega
  rel := fun i j hi hj => by
    have h1 := @ixK_le N.length i
    have h2 := @ixK_le N.length j
    rw [kndK_iff f (by omega) (by omega), h _ _ h1 h2, st_ix hi, st_ix hj]
  cnt := by
    have key : ∀ k l, k < N.length + 1 → l < N.length + 1 → ((kndK f (N.length + 1)).getD k 0 = (kndK f (N.length + 1)).getD l 0 ↔ f k = f l) := fun k l hk hl => kndK_iff f hk hl
    have h1 := (dist_more (f := f) (g := fun k => (kndK f (N.length + 1)).getD k 0) (m := N.length + 1) (fun k l hk hl e => (key k l hk hl).2 e) _ (Nat.le_refl _)).1
    have h2 := (dist_more (f := fun k => (kndK f (N.length + 1)).getD k 0) (g := f) (m := N.length + 1) (fun k l hk hl e => (key k l hk hl).1 e) _ (Nat.le_refl _)).1
    omega
theorem KRel.at {N : List (List Int)} {A : List Int} {r c : Nat} {K : List Int} (h : KRel N A r K c) {k l : Nat} (hk : k ≤ N.length) (hl : l ≤ N.length) : K.getD k 0 = K.getD l 0 ↔ AlkK N A r (stI N.length k) (stI N.length l) := by
  rw [← h.rel _ _ (stI_le hk) (stI_le hl), ix_st hk, ix_st hl]
theorem kinds0 {N : List (List Int)} {A : List Int} (hn : N.length ≤ 240) : KRel N A 0 (kndK (fun k => acA N A (stI N.length k)) (N.length + 1)) (distK (fun k => acA N A (stI N.length k)) (N.length + 1)).length :=
  told_rel hn fun _ _ _ _ => (alkK_zero N A _ _).symm
theorem kindsS {N : List (List Int)} {A : List Int} (hr : RgtA N A) {r c : Nat} {K : List Int} (h : KRel N A r K c) : KRel N A (r + 1) (kndK (fun k => keyP N K (stI N.length k) 256) (N.length + 1)) (distK (fun k => keyP N K (stI N.length k) 256) (N.length + 1)).length := by
  refine told_rel hr.few fun k l hk hl => ?_
  have hin : ∀ i, ixK N.length i < K.length := fun i => by have := @ixK_le N.length i; have := h.len; omega
  have key : ∀ i j, i ≤ N.length → j ≤ N.length → (kb K (ixK N.length i) = kb K (ixK N.length j) ↔ AlkK N A r i j) := fun i j hi hj => by
    rw [← h.rel i j hi hj]
    exact ⟨kb_inj h.ok (hin i) (hin j), fun e => by unfold kb; rw [e]⟩
  rw [keyP_iff, alkK_succ, key _ _ (stI_le hk) (stI_le hl)]
  constructor
  · rintro ⟨h1, h2⟩
    exact ⟨h1, fun b hb => (key _ _ (nxA_le hr.rgt _ hb) (nxA_le hr.rgt _ hb)).1 (h2 b hb)⟩
  · rintro ⟨h1, h2⟩
    exact ⟨h1, fun b hb => (key _ _ (nxA_le hr.rgt _ hb) (nxA_le hr.rgt _ hb)).2 (h2 b hb)⟩
theorem KRel.fine {N : List (List Int)} {A : List Int} {r c c' : Nat} {K K' : List Int} (h : KRel N A r K c) (h' : KRel N A (r + 1) K' c') : ∀ k l, k < N.length + 1 → l < N.length + 1 → K'.getD k 0 = K'.getD l 0 → K.getD k 0 = K.getD l 0 := fun k l hk hl e => by
  rw [h.at (by omega) (by omega)]
  exact ((alkK_succ N A r _ _).1 ((h'.at (by omega) (by omega)).1 e)).1
theorem KRel.grow {N : List (List Int)} {A : List Int} {r c c' : Nat} {K K' : List Int} (h : KRel N A r K c) (h' : KRel N A (r + 1) K' c') : c ≤ c' ∧ c' ≤ N.length + 1 := by
  have h1 := (dist_more (f := fun k => K'.getD k 0) (g := fun k => K.getD k 0) (h.fine h') _ (Nat.le_refl _)).1
  have h2 := distK_len (fun k => K'.getD k 0) (N.length + 1)
  rw [← h.cnt, ← h'.cnt] at h1
  rw [← h'.cnt] at h2
  exact ⟨h1, h2⟩
/-- kinds that tell alike states -/
structure KndA (N : List (List Int)) (A : List Int) (K : List Int) : Prop where
  len : K.length = N.length + 1
  ok : KOk K
  rel : ∀ i j, i ≤ N.length → j ≤ N.length → (K.getD (ixK N.length i) 0 = K.getD (ixK N.length j) 0 ↔ Alk N A i j)
theorem KRel.stop {N : List (List Int)} {A : List Int} (hr : RgtA N A) {r c : Nat} {K K' : List Int} (h : KRel N A r K c) (h' : KRel N A (r + 1) K' c) : KndA N A K := by
  have h1 := (dist_more (f := fun k => K'.getD k 0) (g := fun k => K.getD k 0) (h.fine h') _ (Nat.le_refl _)).2 (by rw [← h.cnt, ← h'.cnt])
  have hst : ∀ i j, i ≤ N.length → j ≤ N.length → AlkK N A r i j → AlkK N A (r + 1) i j := fun i j hi hj e => by
    have e1 := (h.rel i j hi hj).2 e
    have := @ixK_le N.length i
    have := @ixK_le N.length j
    exact (h'.rel i j hi hj).1 (h1 _ _ (by omega) (by omega) e1)
  refine ⟨h.len, h.ok, fun i j hi hj => ?_⟩
  rw [h.rel i j hi hj]
  exact ⟨alk_stable hr.rgt hst i j hi hj, fun e s _ => e s⟩
/-- what an automaton accepts, as the machine can hold it -/
def AccW (A : List Int) : Prop := ∀ j, A.getD j 0 ≤ 9223372036854775807
theorem acA_in {N : List (List Int)} {A : List Int} (hr : RgtA N A) (hA : AccW A) (i : Nat) : -1 ≤ acA N A i ∧ acA N A i ≤ 9223372036854775807 := by
  unfold acA
  split
  · omega
  · exact ⟨hr.acc i (by rw [← hr.len]; omega), hA i⟩
set_option maxRecDepth 20000 in
theorem key1C (nv av : Value) (N : List (List Int)) (A : List Int) (p k : Nat) (u : World) (hD : Dfa u nv av N A) (hr : RgtA N A) (hk : k ≤ N.length) (hp : u.heap[p]? = some (.cells #[nv, av] 25 (0, 0))) :
    Calls Tryz.prog 34 #[.int .i64 ((k : Int) - 1), .pointer (some ⟨p, 0, none⟩)] u fun e w' => e = .returned (.int .i64 (acA N A (stI N.length k))) ∧ Below u.heap.size u w' := by
  have G := hid (acceptOfC nv av N A (stI N.length k) u hD hr (stI_le hk))
  rw [inI_st hk] at G
  obtain ⟨⟨na, nc, rfl⟩, ⟨aa, ac, rfl⟩⟩ := hD.shape
  obtain ⟨c0, c1, -⟩ := cells2m hp
  clear hD hr
  go_enter Tryz.func34, Tryz.ntmps34
  go_wp2_with (go_at_call 27; refine G.out.mono ?_; rintro e w1 ⟨rfl, hb1⟩)
  go_ret
  exact ⟨rfl, hb1⟩
set_option maxRecDepth 20000 in
theorem key2C (nv av kv : Value) (N : List (List Int)) (A K : List Int) (p q k : Nat) (u : World) (hD : Dfa u nv av N A) (hr : RgtA N A) (hk : k ≤ N.length) (hp : u.heap[p]? = some (.cells #[nv, av] 25 (0, 0))) (hq : u.heap[q]? = some (.cells #[kv] 45 (0, 0))) (hK : Nums u kv K) (hl : K.length = N.length + 1) (hok : KOk K) :
    Calls Tryz.prog 36 #[.int .i64 ((k : Int) - 1), .pointer (some ⟨p, 0, none⟩), .pointer (some ⟨q, 0, none⟩)] u fun e w' => e = .returned (.string (strT (keyP N K (stI N.length k) 256))) ∧ Below u.heap.size u w' := by
  have G := hid (keyOfC nv av kv N A K (stI N.length k) u hD hr (stI_le hk) hK hl hok)
  rw [inI_st hk] at G
  obtain ⟨⟨na, nc, rfl⟩, ⟨aa, ac, rfl⟩⟩ := hD.shape
  obtain ⟨ka, kc, rfl⟩ := nums_shape' hK
  obtain ⟨c0, c1, -⟩ := cells2m hp
  have c2 := blk_cell (o := 0) hq rfl
  clear hD hr hl hK
  go_enter Tryz.func36, Tryz.ntmps36
  go_wp2_with (go_at_call 37; refine G.out.mono ?_; rintro e w1 ⟨rfl, hb1⟩)
  go_ret
  exact ⟨rfl, hb1⟩
theorem own_shape' {w : World} {B : Nat} {v : Value} {l : List Int} {m : Nat} (h : Own w B v l) (hl : l.length = m) : ∃ a c, v = .slice a m c := by
  obtain ⟨a, c, e⟩ := own_shape h
  exact ⟨a, c, by rw [e, hl]⟩
set_option maxRecDepth 20000 in
set_option maxHeartbeats 4000000 in
theorem kindsOfC (nv av : Value) (N : List (List Int)) (A : List Int) (w : World) (hD : Dfa w nv av N A) (hr : RgtA N A) (hA : AccW A) :
    Calls Tryz.prog 21 #[.agg #[nv, av]] w fun e w' => ∃ v K, e = .returned v ∧ Nums w' v K ∧ KndA N A K ∧ Below w.heap.size w w' := by
  have hf := hr.few
  obtain ⟨⟨na, nc, rfl⟩, ⟨aa, ac, rfl⟩⟩ := hD.shape
  obtain ⟨W0, hW0⟩ : ∃ W0, w.alloc (.cells #[.slice na N.length nc, .slice aa A.length ac] 25) = W0 := ⟨_, rfl⟩
  have hb0 : Hid (Below w.heap.size w W0) := by rw [← hW0]; exact hid (al' w _)
  have hz0 : Hid (W0.heap[w.heap.size]? = some (.cells #[.slice na N.length nc, .slice aa A.length ac] 25 (0, 0))) := by rw [← hW0]; exact hid (heap_new w _)
  obtain ⟨c0, c1, -⟩ := cells2m hz0.out
  have G1 := hid (toldIC (.slice na N.length nc) (.slice aa A.length ac) N A (fun k => acA N A (stI N.length k)) (.pointer (some ⟨w.heap.size, 0, none⟩)) W0 (hD.keep hb0.out) hf (fun k _ => by have := acA_in hr hA (stI N.length k); omega)
    (fun k hk u hu => key1C _ _ N A w.heap.size k u ((hD.keep hb0.out).keep hu) hr hk (hs_keep hz0.out hu)))
  have hR0 := hid (kinds0 (A := A) hf)
  have hkl : Hid ((kndK (fun k => acA N A (stI N.length k)) (N.length + 1)).length = N.length + 1) := hid (kndK_len _ _)
  generalize kndK (fun k => acA N A (stI N.length k)) (N.length + 1) = K0 at G1 hR0 hkl
  generalize (distK (fun k => acA N A (stI N.length k)) (N.length + 1)).length = m0 at G1 hR0
  have G2 : Hid (∀ (r c : Nat) (K : List Int) (v : Value) (q : Nat) (u : World), KRel N A r K c → Below W0.heap.size W0 u → Nums u v K → u.heap[q]? = some (.cells #[v] 45 (0, 0)) → ∃ K' c', KRel N A (r + 1) K' c' ∧ Calls Tryz.prog 35 #[.agg #[.slice na N.length nc, .slice aa A.length ac], .func (.func 36) #[] #[.pointer (some ⟨w.heap.size, 0, none⟩), .pointer (some ⟨q, 0, none⟩)]] u fun e w' => ∃ v', e = .returned (.tuple #[v', .int .i64 (c' : Int)]) ∧ Own w' u.heap.size v' K' ∧ Below u.heap.size u w') := hid (fun r c K v q u hR hu hK hq => ⟨_, _, kindsS hr hR, toldSC _ _ N A (fun k => keyP N K (stI N.length k) 256) _ _ u ((hD.keep hb0.out).keep hu) hf (fun k _ => by rw [keyP_len]; omega)
    (fun k hk u' hu' => key2C _ _ v N A K w.heap.size q k u' (((hD.keep hb0.out).keep hu).keep hu') hr hk (hs_keep (hs_keep hz0.out hu) hu') (hs_keep hq hu') (hK.keep hu') hR.len hR.ok)⟩)
  have hmf : ∀ (fn : Fn) (first cap : Array Value) (w : World), (Instr.makeFunc fn first cap).run Tryz.prog w = .ok (.func fn first cap) w := fun _ _ _ _ => rfl
  have hrH := hid hr
  clear hD hr hA
  go_enter Tryz.func21, Tryz.ntmps21
  go_wp2_with (go_at_call 33; refine G1.out.mono ?_; rintro e w1 ⟨v1, rfl, hO1, hb1⟩; obtain ⟨a1, c1', rfl⟩ := own_shape' hO1 hkl.out; have hO1 := hid hO1)
  have hal1 := hid (al' w1 (.cells #[.slice a1 (N.length + 1) c1'] 45))
  have hq1 := hid (heap_new w1 (.cells #[.slice a1 (N.length + 1) c1'] 45))
  have hN1 := hid ((Nums.of_row hO1.out).keep hal1.out)
  have hb1a := hid (bl_step hb1 hal1.out)
  have hqw : Hid (W0.heap.size ≤ w1.heap.size) := hid hb1.size
  clear c0 c1 hW0 G1 hO1
  generalize w1.alloc (.cells #[.slice a1 (N.length + 1) c1'] 45) = W2 at hq1 hN1 hb1a ⊢
  generalize w1.heap.size = q at hq1 hqw ⊢
  go_loopw [4] (fun cv wr => ∃ (r c : Nat) (K : List Int) (a : Option Addr) (cp : Nat), c ≤ N.length + 1 ∧ cv = .int .i64 (c : Int) ∧ Hid (KRel N A r K c) ∧ Hid (Nums wr (.slice a (N.length + 1) cp) K) ∧ Hid (wr.heap[q]? = some (.cells #[.slice a (N.length + 1) cp] 45 (0, 0))) ∧ Hid (Below W0.heap.size W0 wr)) (fun cv _ => 1000 - (intOf cv).toNat)
  case atStart => exact ⟨0, m0, K0, a1, c1', by rw [hR0.out.cnt]; exact distK_len _ _, rfl, hR0, hN1, hq1, hb1a⟩
  case round =>
    obtain ⟨r, c, K, a, cp, hc, rfl, hR, hN, hq, hbl⟩ := hrel
    obtain ⟨K', c', hR', G⟩ := G2.out r c K _ q wr hR.out hbl.out hN.out hq.out
    have G := hid G
    have hR' := hid hR'
    obtain ⟨hgr1, hgr2⟩ := hR.out.grow hR'.out
    obtain ⟨d0, d1, -⟩ := cells2m (hs_keep hz0.out hbl.out)
    have hlt : Hid (q < wr.heap.size) := hid (blk_lt hq.out)
    have hkl' : Hid (K'.length = N.length + 1) := hid hR'.out.len
    by_cases he : c' = c
    · subst he
      go_wp2_with (go_at_call 35; refine G.out.mono ?_; rintro e w3 ⟨v3, rfl, hO3, hb3⟩; obtain ⟨a3, c3, rfl⟩ := own_shape' hO3 hkl'.out; have hq3 := hs_keep hq.out hb3; have e0 := blk_cell (o := 0) hq3 rfl; have hN3 := hid (hN.out.keep hb3); clear hq3)
      go_ret
      exact ⟨_, K, rfl, hN3.out, hR.out.stop hrH.out hR'.out, bl_step hb0.out (bl_step hbl.out hb3)⟩
    · have hne : ¬ (c' : Int) = (c : Int) := by omega
      have hne2 : ((c' : Int) == (c : Int)) = false := beq_eq_false_iff_ne.2 hne
      go_wp2_with (go_at_call 35; refine G.out.mono ?_; rintro e w3 ⟨v3, rfl, hO3, hb3⟩; obtain ⟨a3, c3, rfl⟩ := own_shape' hO3 hkl'.out; have hq3 := hid (hs_keep hq.out hb3); have e0 := blk_cell (o := 0) hq3.out rfl; have e1 := blk_frozen hq3.out 0; have hO3 := hid hO3)
      go_roundw
      case rel => exact ⟨r + 1, c', K', a3, c3, hgr2, rfl, hR', hid (Nums.of_row (own_set hO3.out (fun e => by have := (hO3.out.lt _ e).1; have := hlt.out; omega))), hid (heap_setCell hq3.out), hid (bl_set (bl_step hbl.out hb3) _ _ _ hqw.out)⟩
      case measure => simp [intOf]; omega

end Go.Proofs.YtjelgphhlcecoaaGreatDoor
namespace Go.Proofs.YtjelgphhlcecoaaGreatDoor
open Go.RowKit Go.Maps

def SI (S : List Nat) : List Int := S.map fun x : Nat => (x : Int)
theorem SI_len (S : List Nat) : (SI S).length = S.length := by simp [SI]
theorem SI_at (S : List Nat) (j : Nat) : (SI S).getD j 0 = ((S.getD j 0 : Nat) : Int) := by
  unfold SI
  rw [List.getD_eq_getElem?_getD, List.getElem?_map, List.getD_eq_getElem?_getD]
  cases S[j]? <;> rfl
structure MkS (db : Nat) (w0 w : World) (D F : Nat → Prop) (tv nv av : Value) (vs : List Value) (S : List Nat) (N : List (List Int)) (A : List Int) : Prop where
  df : DfO w0.heap.size db D F w nv av vs N A
  st : Own w w0.heap.size tv (SI S)
  sF : ∀ k, tv.ownBlock = some k → F k
  fF : ∀ k, F k → w0.heap.size ≤ k
  fL : ∀ k, F k → k < w.heap.size
  dF : ∀ k, D k → w0.heap.size ≤ k
  low : Below w0.heap.size w0 w
  up : ∀ j, Off (fun k => k < w0.heap.size) (vs.getD j nilV)
theorem MkS.keep {db : Nat} {w0 w u : World} {D F : Nat → Prop} {tv nv av : Value} {vs : List Value} {S : List Nat} {N : List (List Int)} {A : List Int} (h : MkS db w0 w D F tv nv av vs S N A) (hu : Below w.heap.size w u) : MkS db w0 u D F tv nv av vs S N A :=
  ⟨h.df.keep hu, own_below h.st hu, h.sF, h.fF, fun k hk => Nat.lt_of_lt_of_le (h.fL k hk) hu.size, h.dF, bl_step h.low hu, h.up⟩
theorem MkS.moved {db : Nat} {w0 w u : World} {D F F' : Nat → Prop} {tv tv' nv av : Value} {vs : List Value} {S S' : List Nat} {N : List (List Int)} {A : List Int} (h : MkS db w0 w D F tv nv av vs S N A) (hu : Mvd F F' w u) (hL : ∀ k, F' k → k < u.heap.size)
    (hst : Own u w0.heap.size tv' (SI S')) (hF : ∀ k, tv'.ownBlock = some k → F' k) : MkS db w0 u D F' tv' nv av vs S' N A := by
  refine ⟨h.df.moved hu, hst, hF, fun k hk => ?_, hL, h.dF, h.low.trans (hu.kept.below h.fF h.low.size), h.up⟩
  rcases hu.new k hk with h2 | h2
  · exact h.fF k h2
  · exact Nat.le_trans h.low.size h2
/-- one of their blocks changes that isn't the states' own -/
theorem MkS.other {db : Nat} {w0 w u : World} {D F : Nat → Prop} {tv nv av : Value} {vs : List Value} {S : List Nat} {N : List (List Int)} {A : List Int} (h : MkS db w0 w D F tv nv av vs S N A) {b : Nat} (hb : F b) (ht : tv.ownBlock ≠ some b) (hk : Kept (fun k => some b = some k) w u) : MkS db w0 u D F tv nv av vs S N A :=
  h.moved ⟨hk.mono fun k _ e => by injection e with e; rw [← e]; exact hb, fun _ hk => Or.inl hk⟩ (fun k hk' => Nat.lt_of_lt_of_le (h.fL k hk') hk.size) (own_kept h.st hk fun k e e' => ht (by injection e' with e'; rw [e, e'])) h.sF
theorem SI_snoc (S : List Nat) (t : Nat) : SI (S ++ [t]) = SI S ++ [(t : Int)] := by simp [SI]
/-- one state more -/
theorem MkS.push {db : Nat} {w0 w u : World} {D F : Nat → Prop} {tv nv av : Value} {vs : List Value} {S : List Nat} {N : List (List Int)} {A : List Int} (h : MkS db w0 w D F tv nv av vs S N A) {t g cap : Nat}
    (ho : u.ownsRow w0.heap.size 3 1 (.slice (some ⟨g, 0, none⟩) ((SI S).length + 1) cap) ((SI S).length + 1) (numCells (SI S) ++ [.int .i64 (t : Int)])) (hg : w.grownBy u tv.ownBlock) (hat : tv.ownBlock = some g ∨ g = w.heap.size) :
    MkS db w0 u D (fun k => F k ∨ k = g) (.slice (some ⟨g, 0, none⟩) ((SI S).length + 1) cap) nv av vs (S ++ [t]) N A := by
  have hgl : g < u.heap.size := (ho.lt g rfl).2
  refine h.moved ⟨(Kept.of_grown hg).mono fun k _ e => h.sF k e, fun k hk => ?_⟩ (fun k hk => ?_) ?_ (fun k e => Or.inr (by injection e with e; exact e.symm))
  · rcases hk with h1 | h1
    · exact Or.inl h1
    · rcases hat with h2 | h2
      · exact Or.inl (h1 ▸ h.sF g h2)
      · exact Or.inr (by omega)
  · rcases hk with h1 | h1
    · exact Nat.lt_of_lt_of_le (h.fL k h1) hg.size
    · omega
  · have e1 : (SI S ++ [(t : Int)]).length = (SI S).length + 1 := List.length_append
    unfold Own
    rw [SI_snoc, e1, numCells_snoc]
    exact ho
theorem MkS.newBlk {db : Nat} {w0 w u : World} {D F : Nat → Prop} {tv nv av : Value} {vs : List Value} {S : List Nat} {N : List (List Int)} {A : List Int} (h : MkS db w0 w D F tv nv av vs S N A) (hu : Below w.heap.size w u) (hs : w.heap.size < u.heap.size) : MkS db w0 u D (fun k => F k ∨ k = w.heap.size) tv nv av vs S N A :=
  h.moved ⟨Kept.of_below hu, fun k hk => by
    rcases hk with h1 | h1
    · exact Or.inl h1
    · exact Or.inr (by omega)⟩ (fun k hk => by
    rcases hk with h1 | h1
    · exact Nat.lt_of_lt_of_le (h.fL k h1) hu.size
    · omega) (own_below h.st hu) (fun k e => Or.inl (h.sF k e))
theorem MkS.drop {db : Nat} {w0 w : World} {D F G : Nat → Prop} {tv nv av : Value} {vs : List Value} {S : List Nat} {N : List (List Int)} {A : List Int} (h : MkS db w0 w D F tv nv av vs S N A) (hG : ∀ k, G k → F k) (ht : ∀ k, tv.ownBlock = some k → G k) : MkS db w0 w D G tv nv av vs S N A :=
  ⟨⟨h.df.blk, h.df.nxt, h.df.nF, h.df.acc, h.df.aF, h.df.nums.more fun k hk => Or.inl (by rcases hk with h1 | h1; exact Or.inl h1; exact Or.inr (hG k h1)), h.df.inD, h.df.lt, fun k hk hg => h.df.apart k hk (hG k hg), h.df.base⟩,
    h.st, ht, fun k hk => h.fF k (hG k hk), fun k hk => h.fL k (hG k hk), h.dF, h.low, h.up⟩
theorem MkS.row2 {db : Nat} {w0 w w2 : World} {D F : Nat → Prop} {tv nv av x : Value} {vs : List Value} {S : List Nat} {N : List (List Int)} {A l : List Int} (h : MkS db w0 w D F tv nv av vs S N A) (hx : Nums w x l) (hxo : Off (fun k => D k ∨ F k) x) (hxu : Off (fun k => k < w0.heap.size) x) {g cap : Nat}
    (ho : w2.ownsRow w0.heap.size 23 1 (.slice (some ⟨g, 0, none⟩) (vs.length + 1) cap) (vs.length + 1) (vs ++ [x])) (hg : w.grownBy w2 nv.ownBlock) (hat : nv.ownBlock = some g ∨ g = w.heap.size) :
    ∃ D2, MkS db w0 (w2.setCell ⟨db, 0, none⟩ (.slice (some ⟨g, 0, none⟩) (vs.length + 1) cap)) D2 F tv (.slice (some ⟨g, 0, none⟩) (vs.length + 1) cap) av (vs ++ [x]) S (N ++ [l]) A ∧ Kept (fun k => D k) w (w2.setCell ⟨db, 0, none⟩ (.slice (some ⟨g, 0, none⟩) (vs.length + 1) cap)) := by
  have hat' : ∀ k, (Value.slice (some ⟨g, 0, none⟩) (vs.length + 1) cap).ownBlock = some k → nv.ownBlock = some k ∨ w.heap.size ≤ k := fun k e => by
    have e1 : g = k := by injection e
    subst e1
    rcases hat with h1 | h1
    · exact Or.inl h1
    · exact Or.inr (by omega)
  obtain ⟨h1, h2⟩ := h.df.addRow h.fL hx hxo ho hg hat'
  have hbl : Below w0.heap.size w (w2.setCell ⟨db, 0, none⟩ (.slice (some ⟨g, 0, none⟩) (vs.length + 1) cap)) := h2.below h.dF h.low.size
  refine ⟨_, ⟨h1, own_kept h.st h2 (fun k e hd => h.df.apart k hd (h.sF k e)), h.sF, h.fF, fun k hk => Nat.lt_of_lt_of_le (h.fL k hk) h2.size, fun k hk => ?_, h.low.trans hbl, fun j => ?_⟩, h2⟩
  · rcases hk with h3 | h3
    · exact h.dF k h3
    · rcases hat' k h3 with h4 | h4
      · exact h.dF k (h.df.nF k h4).1
      · exact Nat.le_trans h.low.size h4
  · rw [getD_snoc]
    split
    · exact hxu
    · exact h.up j
theorem MkS.acc2 {db : Nat} {w0 w w2 : World} {D F : Nat → Prop} {tv nv av : Value} {vs : List Value} {S : List Nat} {N : List (List Int)} {A A' : List Int} (h : MkS db w0 w D F tv nv av vs S N A) {g n cap : Nat}
    (ho : Own w2 w0.heap.size (.slice (some ⟨g, 0, none⟩) n cap) A') (hg : w.grownBy w2 av.ownBlock) (hat : av.ownBlock = some g ∨ g = w.heap.size) :
    ∃ D2, MkS db w0 (w2.setCell ⟨db, 1, none⟩ (.slice (some ⟨g, 0, none⟩) n cap)) D2 F tv nv (.slice (some ⟨g, 0, none⟩) n cap) vs S N A' ∧ Kept (fun k => D k) w (w2.setCell ⟨db, 1, none⟩ (.slice (some ⟨g, 0, none⟩) n cap)) := by
  have hat' : ∀ k, (Value.slice (some ⟨g, 0, none⟩) n cap).ownBlock = some k → av.ownBlock = some k ∨ w.heap.size ≤ k := fun k e => by
    have e1 : g = k := by injection e
    subst e1
    rcases hat with h1 | h1
    · exact Or.inl h1
    · exact Or.inr (by omega)
  obtain ⟨h1, h2⟩ := h.df.addAcc h.fL ho hg hat'
  have hbl : Below w0.heap.size w (w2.setCell ⟨db, 1, none⟩ (.slice (some ⟨g, 0, none⟩) n cap)) := h2.below h.dF h.low.size
  refine ⟨_, ⟨h1, own_kept h.st h2 (fun k e hd => h.df.apart k hd (h.sF k e)), h.sF, h.fF, fun k hk => Nat.lt_of_lt_of_le (h.fL k hk) h2.size, fun k hk => ?_, h.low.trans hbl, h.up⟩, h2⟩
  rcases hk with h3 | h3
  · exact h.dF k h3
  · rcases hat' k h3 with h4 | h4
    · exact h.dF k (h.df.aF k h4).1
    · exact Nat.le_trans h.low.size h4
/-- a row that is filled beside them, in the block rk -/
structure MkL (db : Nat) (w0 : World) (rk : Nat) (w : World) (D F : Nat → Prop) (tv nv av : Value) (vs : List Value) (S : List Nat) (N : List (List Int)) (A r : List Int) : Prop where
  s : MkS db w0 w D F tv nv av vs S N A
  rF : F rk
  rt : tv.ownBlock ≠ some rk
  row : Own w w0.heap.size (.slice (some ⟨rk, 0, none⟩) 256 256) r
theorem MkL.len {db : Nat} {w0 w : World} {rk : Nat} {D F : Nat → Prop} {tv nv av : Value} {vs : List Value} {S : List Nat} {N : List (List Int)} {A r : List Int} (h : MkL db w0 rk w D F tv nv av vs S N A r) : r.length = 256 := by
  obtain ⟨a, c, e⟩ := own_shape h.row
  injection e with _ e _
  exact e.symm
theorem MkL.keep {db : Nat} {w0 w u : World} {rk : Nat} {D F : Nat → Prop} {tv nv av : Value} {vs : List Value} {S : List Nat} {N : List (List Int)} {A r : List Int} (h : MkL db w0 rk w D F tv nv av vs S N A r) (hu : Below w.heap.size w u) : MkL db w0 rk u D F tv nv av vs S N A r := ⟨h.s.keep hu, h.rF, h.rt, own_below h.row hu⟩
theorem MkL.put {db : Nat} {w0 w : World} {rk : Nat} {D F : Nat → Prop} {tv nv av : Value} {vs : List Value} {S : List Nat} {N : List (List Int)} {A r : List Int} (h : MkL db w0 rk w D F tv nv av vs S N A r) (b : Nat) (y : Int) : MkL db w0 rk (w.setCell ⟨rk, b, none⟩ (.int .i64 y)) D F tv nv av vs S N A (r.set b y) :=
  ⟨h.s.other h.rF h.rt ((Kept.refl _ w).setCell fun _ => rfl), h.rF, h.rt, own_num_put y h.row h.len.symm⟩
theorem MkL.cell {db : Nat} {w0 w : World} {rk : Nat} {D F : Nat → Prop} {tv nv av : Value} {vs : List Value} {S : List Nat} {N : List (List Int)} {A r : List Int} (h : MkL db w0 rk w D F tv nv av vs S N A r) {b : Nat} (hb : b < 256) : w.cell? ⟨rk, b, none⟩ = some (.int .i64 (r.getD b 0)) ∧ w.frozen? ⟨rk, b, none⟩ = false :=
  ⟨own_num_at h.row (by rw [h.len]; exact hb), own_num_free h.row h.len.symm b⟩
theorem MkL.put_cell {db : Nat} {w0 w : World} {rk : Nat} {D F : Nat → Prop} {tv nv av : Value} {vs : List Value} {S : List Nat} {N : List (List Int)} {A r : List Int} (h : MkL db w0 rk w D F tv nv av vs S N A r) {b : Nat} (hb : b < 256) (y : Int) : (w.setCell ⟨rk, b, none⟩ (.int .i64 y)).cell? ⟨rk, b, none⟩ = some (.int .i64 y) ∧ (w.setCell ⟨rk, b, none⟩ (.int .i64 y)).frozen? ⟨rk, b, none⟩ = false := by
  have h1 := (h.put b y).cell hb
  have e : (r.set b y).getD b 0 = y := by
    rw [List.getD_eq_getElem?_getD, List.getElem?_set_self (by rw [h.len]; exact hb)]
    rfl
  rw [e] at h1
  exact h1
theorem MkL.push {db : Nat} {w0 w u : World} {rk : Nat} {D F : Nat → Prop} {tv nv av : Value} {vs : List Value} {S : List Nat} {N : List (List Int)} {A r : List Int} (h : MkL db w0 rk w D F tv nv av vs S N A r) {t g cap : Nat}
    (ho : u.ownsRow w0.heap.size 3 1 (.slice (some ⟨g, 0, none⟩) ((SI S).length + 1) cap) ((SI S).length + 1) (numCells (SI S) ++ [.int .i64 (t : Int)])) (hg : w.grownBy u tv.ownBlock) (hat : tv.ownBlock = some g ∨ g = w.heap.size) :
    MkL db w0 rk u D (fun k => F k ∨ k = g) (.slice (some ⟨g, 0, none⟩) ((SI S).length + 1) cap) nv av vs (S ++ [t]) N A r := by
  refine ⟨h.s.push ho hg hat, Or.inl h.rF, fun e => ?_, own_kept h.row (Kept.of_grown hg) (fun k e e' => ?_)⟩
  · have e1 : g = rk := by injection e
    rcases hat with h1 | h1
    · exact h.rt (by rw [h1, e1])
    · have := h.s.fL _ h.rF
      omega
  · have e1 : rk = k := by injection e
    subst e1
    exact h.rt e'
theorem MkL.other {db : Nat} {w0 w u : World} {rk : Nat} {D F : Nat → Prop} {tv nv av : Value} {vs : List Value} {S : List Nat} {N : List (List Int)} {A r : List Int} (h : MkL db w0 rk w D F tv nv av vs S N A r) {b : Nat} (hb : F b) (ht : tv.ownBlock ≠ some b) (hr : b ≠ rk) (hk : Kept (fun k => some b = some k) w u) : MkL db w0 rk u D F tv nv av vs S N A r :=
  ⟨h.s.other hb ht hk, h.rF, h.rt, own_kept h.row hk fun k e e' => hr (by have e1 : rk = k := (by injection e); have e2 : b = k := (by injection e'); omega)⟩
theorem MkS.at {db : Nat} {w0 w : World} {D F : Nat → Prop} {tv nv av : Value} {vs : List Value} {S : List Nat} {N : List (List Int)} {A : List Int} (h : MkS db w0 w D F tv nv av vs S N A) {n : Nat} (hn : n < S.length) : ∃ g c, tv = .slice (some ⟨g, 0, none⟩) (SI S).length c ∧ w.cell? ⟨g, n, none⟩ = some (.int .i64 ((S.getD n 0 : Nat) : Int)) := by
  have hl := SI_len S
  obtain ⟨g, c, e, _⟩ := own_form h.st (by omega)
  have hst := h.st
  rw [e] at hst
  refine ⟨g, c, e, ?_⟩
  rw [own_num_at hst (by omega), SI_at]
/-- a row, filled up with noughts -/
def rowN0 (q : List Int) : List Int := q ++ List.replicate (256 - q.length) 0
theorem rowN0_put {q : List Int} {b : Nat} (hq : q.length = b) (hb : b < 256) (y : Int) : (rowN0 q).set b y = rowN0 (q ++ [y]) := by
  subst hq
  unfold rowN0
  rw [List.set_append_right _ _ (Nat.le_refl _), Nat.sub_self, show 256 - q.length = (256 - (q ++ [y]).length) + 1 by rw [List.length_append, List.length_singleton]; omega, List.replicate_succ, List.set_cons_zero, List.append_assoc]
  rfl
theorem rowN0_full {q : List Int} (h : q.length = 256) : rowN0 q = q := by unfold rowN0; rw [h]; simp
theorem rowN0_nil : rowN0 [] = List.replicate 256 0 := rfl

end Go.Proofs.YtjelgphhlcecoaaGreatDoor
namespace Go.Proofs.YtjelgphhlcecoaaGreatDoor
open Go.RowKit Go.Maps

/-- a state's kind -/
def knd (K : List Int) (n i : Nat) : Int := K.getD (ixK n i) 0
def alK (K : List Int) (n : Nat) (i j : Nat) : Bool := decide (knd K n i = knd K n j)
theorem alK_AlB {N : List (List Int)} {A K : List Int} (h : KndA N A K) : AlB N A (alK K N.length) := fun i j hi hj => by
  unfold alK
  rw [decide_eq_true_iff]
  exact h.rel i j hi hj
theorem alK_trans {K : List Int} {n i j : Nat} (h : alK K n i j = true) (k : Nat) : alK K n i k = alK K n j k := by
  unfold alK at *
  rw [decide_eq_true_iff] at h
  rw [h]
theorem alK_symm (K : List Int) (n i j : Nat) : alK K n i j = alK K n j i := by
  unfold alK
  by_cases h : knd K n i = knd K n j
  · rw [decide_eq_true h, decide_eq_true h.symm]
  · rw [decide_eq_false h, decide_eq_false (fun e => h e.symm)]
/-- what is told of a state when these were met -/
def numM (K : List Int) (n : Nat) (S : List Nat) (i : Nat) : Option Int := if alK K n i n then some (-1) else if S.findIdx (alK K n i) < S.length then some (S.findIdx (alK K n i) : Int) else none
def MapOK (K : List Int) (n : Nat) (S : List Nat) (l : List (Int × Int)) : Prop := ∀ i, i ≤ n → lkA l (knd K n i) = numM K n S i
theorem mapOK_start (K : List Int) (n : Nat) : MapOK K n [0] [(knd K n n, -1), (knd K n 0, 0)] := fun i _ => by
  unfold numM
  have e1 : (knd K n n = knd K n i) = (alK K n i n = true) := by unfold alK; rw [decide_eq_true_iff]; exact propext eq_comm
  have e2 : (knd K n 0 = knd K n i) = (alK K n i 0 = true) := by unfold alK; rw [decide_eq_true_iff]; exact propext eq_comm
  simp only [lkA, e1, e2]
  by_cases h1 : alK K n i n = true
  · rw [if_pos h1, if_pos h1]
  · rw [if_neg h1, if_neg h1]
    by_cases h2 : alK K n i 0 = true
    · rw [if_pos h2, if_pos (by simp [List.findIdx_cons, h2])]
      simp [List.findIdx_cons, h2]
    · rw [if_neg h2, if_neg (by simp [List.findIdx_cons, h2])]
theorem find_snoc (p : Nat → Bool) (S : List Nat) (t : Nat) : (S ++ [t]).findIdx p = if S.findIdx p < S.length then S.findIdx p else S.length + (if p t then 0 else 1) := by
  rw [List.findIdx_append]
  by_cases h : S.findIdx p < S.length
  · rw [if_pos h, if_pos h]
  · rw [if_neg h, if_neg h]
    simp [List.findIdx_cons]
    split <;> simp_all <;> omega
theorem find_out {p : Nat → Bool} {S : List Nat} (h : ¬ S.findIdx p < S.length) : ∀ x ∈ S, p x = false := fun x hx => by
  cases hp : p x with
  | false => rfl
  | true => exact absurd (List.findIdx_lt_length_of_exists ⟨x, hx, hp⟩) h
theorem find_not {p : Nat → Bool} {S : List Nat} (h : ∀ x ∈ S, p x = false) : ¬ S.findIdx p < S.length := fun h1 => by
  have := List.findIdx_getElem (w := h1)
  rw [h _ (List.getElem_mem h1)] at this
  cases this
theorem mapOK_push {K : List Int} {n : Nat} {S : List Nat} {l : List (Int × Int)} (h : MapOK K n S l) {t : Nat} (hd : alK K n t n = false) (hn : ¬ S.findIdx (alK K n t) < S.length) : MapOK K n (S ++ [t]) ((knd K n t, (S.length : Int)) :: l) := fun i hi => by
  have e1 : (knd K n t = knd K n i) = (alK K n i t = true) := by unfold alK; rw [decide_eq_true_iff]; exact propext eq_comm
  have e2 : lkA ((knd K n t, (S.length : Int)) :: l) (knd K n i) = if alK K n i t = true then some (S.length : Int) else lkA l (knd K n i) := by simp only [lkA, e1]
  rw [e2, h i hi]
  unfold numM
  by_cases h1 : alK K n i t = true
  · have h2 : alK K n i n = false := by rw [alK_trans h1]; exact hd
    have h3 : ¬ S.findIdx (alK K n i) < S.length := find_not fun x hx => by rw [alK_trans h1]; exact find_out hn x hx
    rw [if_pos h1, if_neg (by simp [h2]), find_snoc, if_neg h3, if_pos h1, if_pos (by simp)]
    simp
  · rw [if_neg h1]
    by_cases h2 : alK K n i n = true
    · rw [if_pos h2, if_pos h2]
    · rw [if_neg h2, if_neg h2, find_snoc]
      by_cases h3 : S.findIdx (alK K n i) < S.length
      · rw [if_pos h3, if_pos h3, if_pos (by simp; omega)]
      · rw [if_neg h3, if_neg h3, if_neg h1, if_neg (by simp)]
/-- the three ways of a byte -/
theorem num_none {K : List Int} {n : Nat} {S : List Nat} {i : Nat} (h : alK K n i n = true) : numM K n S i = some (-1) := by unfold numM; rw [if_pos h]
theorem num_old {K : List Int} {n : Nat} {S : List Nat} {i : Nat} (h : alK K n i n = false) (hf : S.findIdx (alK K n i) < S.length) : numM K n S i = some (S.findIdx (alK K n i) : Int) := by unfold numM; rw [if_neg (by simp [h]), if_pos hf]
theorem num_new {K : List Int} {n : Nat} {S : List Nat} {i : Nat} (h : alK K n i n = false) (hf : ¬ S.findIdx (alK K n i) < S.length) : numM K n S i = none := by unfold numM; rw [if_neg (by simp [h]), if_neg hf]
theorem knd_in {N : List (List Int)} {A K : List Int} (h : KndA N A K) (i : Nat) : 0 ≤ knd K N.length i ∧ knd K N.length i < 256 := by
  have := @ixK_le N.length i
  exact h.ok _ (by rw [h.len]; omega)

end Go.Proofs.YtjelgphhlcecoaaGreatDoor
