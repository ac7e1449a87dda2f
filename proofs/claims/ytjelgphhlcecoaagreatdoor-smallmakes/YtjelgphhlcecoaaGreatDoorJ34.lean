/- Layer 8's law: copied. Slices of sets: own ones, appended ones. Places in memory: the object that placesOf fills. -/
import Derived.Test.YtjelgphhlcecoaaGreatDoorJ33
import Derived.Test.YtjelgphhlcecoaaGreatDoorJ21
import Derived.Test.YtjelgphhlcecoaaGreatDoorJ16
import Derived.Test.YtjelgphhlcecoaaGreatDoorJ5
import Derived.Test.YtjelgphhlcecoaaGreatDoorJ22
import Derived.Laws.AppendOwnNone
namespace Go.Proofs.YtjelgphhlcecoaaGreatDoor
open Go.RowKit

theorem Cels.kept {F : Nat → Prop} {w w' : World} {v : Value} {l : List Cel} (h : Cels w v l) (hk : Kept F w w') (ho : Off F v) : Cels w' v l := by
  obtain ⟨a, cap, rfl, hc, hn, hf, hat⟩ := h
  refine ⟨a, cap, rfl, hc, hn, hf, fun j hj => ?_⟩
  obtain ⟨b, o, rfl, hlt, h5⟩ := hat j hj
  have hn : ¬ F b := ho _ _ _ rfl (by omega)
  exact ⟨b, o, rfl, Nat.lt_of_lt_of_le hlt hk.size, at5_of fun i hi => hk.cell (h5.word i hi) hlt hn⟩
/-- lists of cells, each apart -/
def CelF (F : Nat → Prop) (w : World) (vs : List Value) (L : List (List Cel)) : Prop := vs.length = L.length ∧ ∀ j, Cels w (vs.getD j nilV) (L.getD j []) ∧ Off F (vs.getD j nilV)
theorem CelF.nil (F : Nat → Prop) (w : World) : CelF F w [] [] := ⟨rfl, fun _ => ⟨⟨none, 0, rfl, Nat.le_refl _, fun _ => rfl, fun _ hS => absurd hS (List.not_mem_nil), fun _ hj => absurd hj (Nat.not_lt_zero _)⟩, Off.nil F⟩⟩
theorem celss_of {F : Nat → Prop} {w : World} {B : Nat} {v : Value} {vs : List Value} {L : List (List Cel)} (h : w.ownsRow B 63 1 v vs.length vs) (hn : CelF F w vs L) : Celss w v L := by
  have h' := h
  have hl := hn.1
  rcases h.2 with ⟨rfl, h0⟩ | ⟨g, cap, cur, rfl, _, _, hc, _⟩
  · have e : L.length = 0 := by omega
    exact ⟨none, 0, by rw [e], by omega, fun _ => rfl, fun j hj => by omega⟩
  · refine ⟨_, cap, by rw [hl], by omega, (fun h => by cases h), fun j hj => ⟨g, 0, vs.getD j nilV, rfl, (h'.lt g rfl).2, ?_, ?_⟩⟩
    · rw [Nat.zero_add, h'.cellAt j (by omega), List.getD_eq_getElem?_getD, List.getElem?_eq_getElem (by omega)]
      rfl
    · have := (hn.2 j).1
      rwa [List.getD_eq_getElem?_getD (l := L), List.getElem?_eq_getElem hj] at this
theorem Off.cels {F G : Nat → Prop} {w : World} {v : Value} {l : List Cel} (ho : Off F v) (h : Cels w v l) (hG : ∀ k, G k → F k ∨ w.heap.size ≤ k) : Off G v := fun ad n c e hn hg => by
  obtain ⟨a, cap, rfl, hc, hz, _, hat⟩ := h
  injection e with e1 e2 e3
  subst e1 e2
  obtain ⟨b, o, e, hlt, h1⟩ := hat 0 hn
  rcases hG _ hg with h | h
  · exact ho _ _ _ rfl hn h
  · cases e
    exact absurd hlt (Nat.not_lt.2 h)
/-- one list more: the row may have moved -/
theorem CelF.snoc {F : Nat → Prop} {u w' : World} {v v' x : Value} {vs : List Value} {L : List (List Cel)} {l : List Cel} (h : CelF F u vs L) (hx : Cels u x l) (hxo : Off F x) (hg : u.grownBy w' v.ownBlock) (hv : ∀ k, v.ownBlock = some k → F k) (hat : ∀ k, v'.ownBlock = some k → v.ownBlock = some k ∨ u.heap.size ≤ k) :
    CelF (fun k => v'.ownBlock = some k) w' (vs ++ [x]) (L ++ [l]) := by
  have hk : Kept F u w' := (Kept.of_grown hg).mono fun k _ e => hv k e
  have hG : ∀ k, v'.ownBlock = some k → F k ∨ u.heap.size ≤ k := fun k e => by
    rcases hat k e with h1 | h1
    · exact Or.inl (hv k h1)
    · exact Or.inr h1
  refine ⟨by simp [h.1], fun j => ?_⟩
  rw [getD_snoc, getD_snoc, h.1]
  split
  · exact ⟨hx.kept hk hxo, hxo.cels hx hG⟩
  · exact ⟨(h.2 j).1.kept hk (h.2 j).2, (h.2 j).2.cels (h.2 j).1 hG⟩
set_option maxRecDepth 20000 in
theorem Tryz.infoCs : (Tryz.prog.info? 63).map (fun i => (i.zero, i.size, i.bytes)) = some (some (.slice none 0 0), 1, 24) := by kernel_rfl
end Go.Proofs.YtjelgphhlcecoaaGreatDoor
namespace Go.Proofs.YtjelgphhlcecoaaGreatDoor
open Go.RowKit

theorem flatS_len (l : List W4) : (flatS l).length = l.length * 4 := by
  induction l with
  | nil => rfl
  | cons S t ih =>
    unfold flatS at ih ⊢
    rw [List.flatMap_cons, List.length_append, ih, List.length_cons]
    simp
    omega
def wordV (S : W4) : Nat → Value
  | 0 => .int .u64 (S.a : Int)
  | 1 => .int .u64 (S.b : Int)
  | 2 => .int .u64 (S.c : Int)
  | _ => .int .u64 (S.d : Int)
theorem flatS_atW : ∀ (l : List W4) (j i : Nat) (hj : j < l.length), i < 4 → (flatS l)[j * 4 + i]? = some (wordV l[j] i)
  | S :: t, 0, i, _, hi => by
    have h4 : i = 0 ∨ i = 1 ∨ i = 2 ∨ i = 3 := by omega
    rcases h4 with rfl | rfl | rfl | rfl <;> rfl
  | S :: t, j + 1, i, hj, hi => by
    have ih := flatS_atW t j i (by simpa using hj) hi
    unfold flatS at ih ⊢
    rw [List.flatMap_cons, show (j + 1) * 4 + i = 4 + (j * 4 + i) by omega, List.getElem?_append_right (by simp)]
    simpa using ih
theorem at4_of {w : World} {b o : Nat} {S : W4} (h : ∀ i, i < 4 → w.cell? ⟨b, o + i, none⟩ = some (wordV S i)) : At4 w b o S := ⟨h 0 (by omega), h 1 (by omega), h 2 (by omega), h 3 (by omega)⟩
theorem At4.word {w : World} {b o : Nat} {S : W4} (h : At4 w b o S) (i : Nat) (hi : i < 4) : w.cell? ⟨b, o + i, none⟩ = some (wordV S i) := by
  have h4 : i = 0 ∨ i = 1 ∨ i = 2 ∨ i = 3 := by omega
  rcases h4 with rfl | rfl | rfl | rfl
  · exact h.1
  · exact h.2.1
  · exact h.2.2.1
  · exact h.2.2.2
theorem flatS_one (l : List W4) : ∀ u ∈ flatS l, u.oneCell' = true := fun u hu => by
  unfold flatS at hu
  obtain ⟨S, _, hS⟩ := List.mem_flatMap.1 hu
  simp at hS
  rcases hS with rfl | rfl | rfl | rfl <;> rfl
theorem Sets.news {w : World} {b o : Nat} {l : List W4} (h : ∀ j (hj : j < l.length), At4 w b (o + j * 4) l[j]) : ∀ j u, (flatS l)[j]? = some u → w.cell? ((⟨b, o, none⟩ : Addr).add j) = some u := fun j u hu => by
  have hj : j < l.length * 4 := by
    rcases Nat.lt_or_ge j (l.length * 4) with h' | h'
    · exact h'
    · rw [List.getElem?_eq_none (by rw [flatS_len]; exact h')] at hu; cases hu
  have e : j = j / 4 * 4 + j % 4 := by omega
  have hq : j / 4 < l.length := by omega
  rw [e, flatS_atW l (j / 4) (j % 4) hq (by omega)] at hu
  injection hu with hu
  subst hu
  rw [Go.WideShapes.add_plain]
  have := (h (j / 4) hq).word (j % 4) (by omega)
  rwa [Nat.add_assoc, ← e] at this
theorem Sets.parts {w : World} {v : Value} {l : List W4} (h : Sets w v l) : (v = .slice none 0 0 ∧ l = []) ∨ ∃ ad cap, v = .slice (some ad) l.length cap ∧ ∀ j u, (flatS l)[j]? = some u → w.cell? (ad.add j) = some u := by
  obtain ⟨a, cap, rfl, hcap, hnil, _, hc⟩ := h
  cases a with
  | none =>
    have h0 := hnil rfl
    have hl : l = [] := List.length_eq_zero_iff.1 (by omega)
    subst hl
    exact Or.inl ⟨by rw [h0]; rfl, rfl⟩
  | some ad =>
    refine Or.inr ⟨ad, cap, rfl, ?_⟩
    by_cases h0 : l = []
    · subst h0; intro j u hu; simp [flatS] at hu
    · obtain ⟨b, o, e, _, _⟩ := hc 0 (List.length_pos_iff.2 h0)
      injection e with e
      subst e
      refine Sets.news fun j hj => ?_
      obtain ⟨b', o', e', _, h4⟩ := hc j hj
      injection e' with e'
      injection e' with e1 e2
      subst e1; subst e2
      exact h4
set_option maxRecDepth 20000 in
theorem Tryz.info97 : (Tryz.prog.info? 97).map (fun i => (i.zero, i.size, i.bytes)) = some (some (.agg #[.int .u64 0, .int .u64 0, .int .u64 0, .int .u64 0]), 4, 32) := by kernel_rfl
set_option maxRecDepth 20000 in
theorem wp_app4 {ops : Array Oper} {rest : List Oper} {o : Oper} {a : Act} {Q : Exit → Act → World → Prop} (w : World) (hgd : o.guard = none) (s x : Operand)
    (ho : o.op = .call { callee := .builtin .append, args := #[s, x], argTypes := #[74, 74] })
    (B : Nat) (l1 l2 : List W4) (v vx : Value) (hs : a.eval s = v) (hx : a.eval x = vx) (hown : OwnS w B v l1) (hN : Sets w vx l2) (hl : l1.length + l2.length ≤ 4000000) (hB : B ≤ w.heap.size)
    (h : ∀ v' w', OwnS w' B v' (l1 ++ l2) → Below B w w' → wpList Tryz.prog ops Q rest (a.put o.dst v') w') : wpList Tryz.prog ops Q (o :: rest) a w := by
  obtain ⟨i0, hi, hz0, hz1, hz2⟩ := info_parts Tryz.info97
  rcases hN.parts with ⟨rfl, rfl⟩ | ⟨ad, cap, rfl, hnews⟩
  · refine wpList_append_own_none hgd s x 74 ho B 97 i0 4 Tryz.underlying74 hi v _ _ hs hown hx ?_
    rw [List.append_nil] at h
    exact h v w hown ((Below.refl _ w).mono hB)
  · refine wpList_append_own w hgd s x 74 ho B 97 i0 (.agg #[.int .u64 0, .int .u64 0, .int .u64 0, .int .u64 0]) 4 32 Tryz.underlying74 hi hz0 hz1 hz2 rfl (by decide) v _ _ hs hown ad l2.length cap (flatS l2) hx (flatS_len l2) hnews (flatS_one l2) (by unfold maxLen; omega) (by omega) hB ?_
    intro v' w' hO hg _
    refine h v' w' ?_ (((Below.refl _ w).mono hB).grown hg hB (fun k hk => (hown.lt k hk).1))
    unfold OwnS
    rw [flatS_app, List.length_append]
    exact hO
theorem parts_fit (l : List W4) : ∀ S ∈ partsB l, Fit4 S := fun S hS => by
  unfold partsB at hS
  obtain ⟨r, _, rfl⟩ := List.mem_map.1 hS
  unfold clsB
  exact mkB_fit _
theorem parts_len (l : List W4) : (partsB l).length ≤ 256 := by unfold partsB; rw [List.length_map]; exact repN_len l 256
theorem OwnS.lit0 (w : World) : OwnS (w.alloc (.cells #[] 97)) w.heap.size (.slice (some ⟨w.heap.size, 0, none⟩) 0 0) [] :=
  World.ownsRow_lit w #[] 0 (Nat.le_refl _) (by unfold maxLen; omega) rfl


theorem news4 (w : World) (ca cb cc cd : Nat) : ∀ j u, [Value.int .u64 (ca : Int), .int .u64 (cb : Int), .int .u64 (cc : Int), .int .u64 (cd : Int)][j]? = some u → (w.alloc (.cells #[.int .u64 (ca : Int), .int .u64 (cb : Int), .int .u64 (cc : Int), .int .u64 (cd : Int)] 97)).cell? ((⟨w.heap.size, 0, none⟩ : Addr).add j) = some u := fun j u hj => by
  match j, hj with
  | 0, hj => simp at hj; subst hj; simp [Addr.add]
  | 1, hj => simp at hj; subst hj; simp [Addr.add]
  | 2, hj => simp at hj; subst hj; simp [Addr.add]
  | 3, hj => simp at hj; subst hj; simp [Addr.add]


end Go.Proofs.YtjelgphhlcecoaaGreatDoor
namespace Go.Proofs.YtjelgphhlcecoaaGreatDoor
open Go.RowKit

theorem SpVF.keep {F : Nat → Prop} {w w' : World} {sv fv lv gv : Value} {p : Sp} (h : SpVF F w sv fv lv gv p) (hb : Below w.heap.size w w') : SpVF F w' sv fv lv gv p :=
  ⟨h.spv.keep hb, h.os, h.of, h.ol, h.og, fun b o n c e j x hj hx => by
    obtain ⟨a, cap, e2, hc, hn, hat⟩ := h.spv.follow
    rw [e] at e2
    injection e2 with e3 e4 e5
    obtain ⟨b', o', x', e6, hlt, h1, _⟩ := hat j hj
    rw [← e3] at e6
    cases e6
    have := keep_cell hb h1
    rw [hx] at this
    injection this with this
    subst this
    exact h.oin b o n c e j _ hj h1⟩
theorem Sets.kept {F : Nat → Prop} {w w' : World} {v : Value} {l : List W4} (h : Sets w v l) (hk : Kept F w w') (ho : Off F v) : Sets w' v l := by
  obtain ⟨a, cap, rfl, hc, hn, hf, hat⟩ := h
  refine ⟨a, cap, rfl, hc, hn, hf, fun j hj => ?_⟩
  obtain ⟨b, o, rfl, hlt, h4⟩ := hat j hj
  have hn : ¬ F b := ho _ _ _ rfl (by omega)
  exact ⟨b, o, rfl, Nat.lt_of_lt_of_le hlt hk.size, hk.cell h4.1 hlt hn, hk.cell h4.2.1 hlt hn, hk.cell h4.2.2.1 hlt hn, hk.cell h4.2.2.2 hlt hn⟩
theorem SpVF.kept {F : Nat → Prop} {w w' : World} {sv fv lv gv : Value} {p : Sp} (h : SpVF F w sv fv lv gv p) (hk : Kept F w w') : SpV w' sv fv lv gv p := by
  refine ⟨h.spv.sets.kept hk h.os, h.spv.first.kept hk h.of, h.spv.last.kept hk h.ol, ?_⟩
  have hog := h.og
  have hoin := h.oin
  obtain ⟨a, cap, rfl, hc, hn, hat⟩ := h.spv.follow
  refine ⟨a, cap, rfl, hc, hn, fun j hj => ?_⟩
  obtain ⟨b, o, x, rfl, hlt, h1, h2⟩ := hat j hj
  have hn : ¬ F b := hog _ _ _ rfl (by omega)
  exact ⟨b, o, x, rfl, Nat.lt_of_lt_of_le hlt hk.size, hk.cell h1 hlt hn, h2.kept hk (hoin b o _ _ rfl j x hj h1)⟩

structure PlO (B pb e : Nat) (F : Nat → Prop) (w : World) (sv bv fv : Value) (S : List W4) (gs : List Value) (G : List (List Int)) (f : List Int) : Prop where
  blk : w.heap[pb]? = some (.cells #[.int .i64 (e : Int), sv, bv, fv] 76 (0, 0))
  sets : OwnS w B sv S
  sF : ∀ k, sv.ownBlock = some k → F k ∧ k ≠ pb ∧ bv.ownBlock ≠ some k ∧ fv.ownBlock ≠ some k
  beh : w.ownsRow B 23 1 bv gs.length gs
  bF : ∀ k, bv.ownBlock = some k → F k ∧ k ≠ pb ∧ fv.ownBlock ≠ some k
  fir : Own w B fv f
  fF : ∀ k, fv.ownBlock = some k → F k ∧ k ≠ pb
  nums : NumsF F w gs G
  inF : F pb
  lt : ∀ k, F k → k < w.heap.size
  base : B ≤ pb
  low : ∀ k, k < B → F k
theorem PlO.size {B pb e : Nat} {F : Nat → Prop} {w : World} {sv bv fv : Value} {S : List W4} {gs : List Value} {G : List (List Int)} {f : List Int} (h : PlO B pb e F w sv bv fv S gs G f) : B ≤ w.heap.size := Nat.le_of_lt (Nat.lt_of_le_of_lt h.base (blk_lt h.blk))
theorem PlO.keep {B pb e : Nat} {F : Nat → Prop} {w u : World} {sv bv fv : Value} {S : List W4} {gs : List Value} {G : List (List Int)} {f : List Int} (h : PlO B pb e F w sv bv fv S gs G f) (hu : Below w.heap.size w u) : PlO B pb e F u sv bv fv S gs G f :=
  ⟨hs_keep h.blk hu, own_below h.sets hu, h.sF, own_below h.beh hu, h.bF, own_below h.fir hu, h.fF, h.nums.kept (Kept.of_below hu), h.inF, fun k hk => Nat.lt_of_lt_of_le (h.lt k hk) hu.size, h.base, h.low⟩
theorem own_set {w : World} {pb o size n B : Nat} {e : TypeId} {v x : Value} {xs : List Value} (h : w.ownsRow B e size v n xs) (hn : v.ownBlock ≠ some pb) : (w.setCell ⟨pb, o, none⟩ x).ownsRow B e size v n xs :=
  own_keep h fun k hk => Below.heap_setCell w ⟨pb, o, none⟩ x k (fun e => hn (by rw [hk, e]))
theorem cells4p {w : World} {b : Nat} {x0 x1 x2 x3 : Value} {T : TypeId} (h : w.heap[b]? = some (.cells #[x0, x1, x2, x3] T (0, 0))) :
    w.cell? ⟨b, 0, none⟩ = some x0 ∧ w.cell? ⟨b, 1, none⟩ = some x1 ∧ w.cell? ⟨b, 2, none⟩ = some x2 ∧ w.cell? ⟨b, 3, none⟩ = some x3 ∧ w.frozen? ⟨b, 0, none⟩ = false ∧ w.frozen? ⟨b, 1, none⟩ = false ∧ w.frozen? ⟨b, 2, none⟩ = false ∧ w.frozen? ⟨b, 3, none⟩ = false :=
  ⟨blk_cell h rfl, blk_cell h rfl, blk_cell h rfl, blk_cell h rfl, blk_frozen h 0, blk_frozen h 1, blk_frozen h 2, blk_frozen h 3⟩
/-- more of the first ones -/
theorem PlO.addFirst {B pb e : Nat} {F : Nat → Prop} {u w' : World} {sv bv fv v' : Value} {S : List W4} {gs : List Value} {G : List (List Int)} {f f' : List Int} (h : PlO B pb e F u sv bv fv S gs G f)
    (ho : Own w' B v' f') (hg : u.grownBy w' fv.ownBlock) (hat : ∀ k, v'.ownBlock = some k → fv.ownBlock = some k ∨ u.heap.size ≤ k) :
    PlO B pb e (fun k => F k ∨ v'.ownBlock = some k) (w'.setCell ⟨pb, 3, none⟩ v') sv bv v' S gs G f' := by
  have hk := Kept.of_grown hg
  have hpb : ¬ fv.ownBlock = some pb := fun e => (h.fF _ e).2 rfl
  have hb1 := hk.blk h.blk hpb
  have hG : ∀ k, (F k ∨ v'.ownBlock = some k) → F k ∨ u.heap.size ≤ k := fun k hk' => by
    rcases hk' with h1 | h1
    · exact Or.inl h1
    · rcases hat k h1 with h2 | h2
      · exact Or.inl (h.fF k h2).1
      · exact Or.inr h2
  have hpv : v'.ownBlock ≠ some pb := fun e => by
    rcases hat _ e with h1 | h1
    · exact hpb h1
    · have := blk_lt h.blk; omega
  have hkF : Kept (fun k => F k ∨ v'.ownBlock = some k) u (w'.setCell ⟨pb, 3, none⟩ v') := (hk.mono fun k _ e => Or.inl (h.fF k e).1).setCell fun _ => Or.inl h.inF
  refine ⟨heap_setCell hb1, own_set (own_kept h.sets hk fun k e e' => (h.sF k e).2.2.2 e') (fun e => (h.sF _ e).2.1 rfl), fun k e => ⟨Or.inl (h.sF k e).1, (h.sF k e).2.1, (h.sF k e).2.2.1, fun e' => ?_⟩, own_set (own_kept h.beh hk fun k e e' => (h.bF k e).2.2 e') (fun e => (h.bF _ e).2.1 rfl), fun k e => ⟨Or.inl (h.bF k e).1, (h.bF k e).2.1, fun e' => ?_⟩, own_set ho hpv, fun k e => ⟨Or.inr e, fun e' => hpv (by rw [← e']; exact e)⟩, (h.nums.more hG).kept hkF, Or.inl h.inF, fun k hk' => ?_, h.base, fun k hk' => Or.inl (h.low k hk')⟩
  · rcases hat k e' with h1 | h1
    · exact (h.sF k e).2.2.2 h1
    · have := (h.sets.lt k e).2; omega
  · rcases hat k e' with h1 | h1
    · exact (h.bF k e).2.2 h1
    · have := (h.beh.lt k e).2; omega
  · rcases hk' with h1 | h1
    · exact Nat.lt_of_lt_of_le (h.lt k h1) hkF.size
    · have := (ho.lt k h1).2; simpa using this
/-- one set more -/
theorem PlO.addSet {B pb e : Nat} {F : Nat → Prop} {u w' : World} {sv bv fv v' : Value} {S S' : List W4} {gs : List Value} {G : List (List Int)} {f : List Int} (h : PlO B pb e F u sv bv fv S gs G f)
    (ho : OwnS w' B v' S') (hg : u.grownBy w' sv.ownBlock) (hat : ∀ k, v'.ownBlock = some k → sv.ownBlock = some k ∨ u.heap.size ≤ k) :
    PlO B pb e (fun k => F k ∨ v'.ownBlock = some k) (w'.setCell ⟨pb, 1, none⟩ v') v' bv fv S' gs G f := by
  have hk := Kept.of_grown hg
  have hpb : ¬ sv.ownBlock = some pb := fun e => (h.sF _ e).2.1 rfl
  have hb1 := hk.blk h.blk hpb
  have hG : ∀ k, (F k ∨ v'.ownBlock = some k) → F k ∨ u.heap.size ≤ k := fun k hk' => by
    rcases hk' with h1 | h1
    · exact Or.inl h1
    · rcases hat k h1 with h2 | h2
      · exact Or.inl (h.sF k h2).1
      · exact Or.inr h2
  have hpv : v'.ownBlock ≠ some pb := fun e => by
    rcases hat _ e with h1 | h1
    · exact hpb h1
    · have := blk_lt h.blk; omega
  have hkF : Kept (fun k => F k ∨ v'.ownBlock = some k) u (w'.setCell ⟨pb, 1, none⟩ v') := (hk.mono fun k _ e => Or.inl (h.sF k e).1).setCell fun _ => Or.inl h.inF
  refine ⟨heap_setCell hb1, own_set ho hpv, fun k e => ⟨Or.inr e, fun e' => hpv (by rw [← e']; exact e), fun e' => ?_, fun e' => ?_⟩, own_set (own_kept h.beh hk fun k e e' => (h.sF k e').2.2.1 e) (fun e => (h.bF _ e).2.1 rfl), fun k e => ⟨Or.inl (h.bF k e).1, (h.bF k e).2⟩, own_set (own_kept h.fir hk fun k e e' => (h.sF k e').2.2.2 e) (fun e => (h.fF _ e).2 rfl), fun k e => ⟨Or.inl (h.fF k e).1, (h.fF k e).2⟩, (h.nums.more hG).kept hkF, Or.inl h.inF, fun k hk' => ?_, h.base, fun k hk' => Or.inl (h.low k hk')⟩
  · rcases hat k e with h1 | h1
    · exact (h.sF k h1).2.2.1 e'
    · have := (h.beh.lt k e').2; omega
  · rcases hat k e with h1 | h1
    · exact (h.sF k h1).2.2.2 e'
    · have := (h.fir.lt k e').2; omega
  · rcases hk' with h1 | h1
    · exact Nat.lt_of_lt_of_le (h.lt k h1) hkF.size
    · have := (ho.lt k h1).2; simpa using this
/-- one list more of what is behind -/
theorem PlO.addBeh {B pb e : Nat} {F : Nat → Prop} {u w' : World} {sv bv fv v' x : Value} {S : List W4} {gs : List Value} {G : List (List Int)} {f l : List Int} (h : PlO B pb e F u sv bv fv S gs G f) (hx : Nums u x l) (hxo : Off F x)
    (ho : w'.ownsRow B 23 1 v' (gs.length + 1) (gs ++ [x])) (hg : u.grownBy w' bv.ownBlock) (hat : ∀ k, v'.ownBlock = some k → bv.ownBlock = some k ∨ u.heap.size ≤ k) :
    PlO B pb e (fun k => F k ∨ v'.ownBlock = some k) (w'.setCell ⟨pb, 2, none⟩ v') sv v' fv S (gs ++ [x]) (G ++ [l]) f := by
  have hk := Kept.of_grown hg
  have hpb : ¬ bv.ownBlock = some pb := fun e => (h.bF _ e).2.1 rfl
  have hb1 := hk.blk h.blk hpb
  have hG : ∀ k, (F k ∨ v'.ownBlock = some k) → F k ∨ u.heap.size ≤ k := fun k hk' => by
    rcases hk' with h1 | h1
    · exact Or.inl h1
    · rcases hat k h1 with h2 | h2
      · exact Or.inl (h.bF k h2).1
      · exact Or.inr h2
  have hpv : v'.ownBlock ≠ some pb := fun e => by
    rcases hat _ e with h1 | h1
    · exact hpb h1
    · have := blk_lt h.blk; omega
  have hkF : Kept (fun k => F k ∨ v'.ownBlock = some k) u (w'.setCell ⟨pb, 2, none⟩ v') := (hk.mono fun k _ e => Or.inl (h.bF k e).1).setCell fun _ => Or.inl h.inF
  have hlen : (gs ++ [x]).length = gs.length + 1 := by simp
  refine ⟨heap_setCell hb1, own_set (own_kept h.sets hk fun k e e' => (h.sF k e).2.2.1 e') (fun e => (h.sF _ e).2.1 rfl), fun k e => ⟨Or.inl (h.sF k e).1, (h.sF k e).2.1, fun e' => ?_, (h.sF k e).2.2.2⟩, by rw [hlen]; exact own_set ho hpv, fun k e => ⟨Or.inr e, fun e' => hpv (by rw [← e']; exact e), fun e' => ?_⟩, own_set (own_kept h.fir hk fun k e e' => (h.bF k e').2.2 e) (fun e => (h.fF _ e).2 rfl), fun k e => ⟨Or.inl (h.fF k e).1, (h.fF k e).2⟩, ((h.nums.snoc hx hxo).more hG).kept hkF, Or.inl h.inF, fun k hk' => ?_, h.base, fun k hk' => Or.inl (h.low k hk')⟩
  · rcases hat k e' with h1 | h1
    · exact (h.sF k e).2.2.1 h1
    · have := (h.sets.lt k e).2; omega
  · rcases hat k e with h1 | h1
    · exact (h.bF k h1).2.2 e'
    · have := (h.fir.lt k e').2; omega
  · rcases hk' with h1 | h1
    · exact Nat.lt_of_lt_of_le (h.lt k h1) hkF.size
    · have := (ho.lt k h1).2; simpa using this

end Go.Proofs.YtjelgphhlcecoaaGreatDoor
