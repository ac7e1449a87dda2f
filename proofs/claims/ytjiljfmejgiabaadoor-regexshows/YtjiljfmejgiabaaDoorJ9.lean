/- The reference: Same. Slices of cells: own ones, appended ones; copied. -/
import Derived.Test.YtjiljfmejgiabaaDoorJ8
import Derived.Deep.RegionHeld3
import Derived.Laws.AppendOwnNone
import Derived.Laws.OwnMore
namespace Go.Proofs.YtjiljfmejgiabaaDoor
open Go.RowKit

abbrev valC (c : Cel) : Value := .agg #[.int .i64 c.op, .int .u64 (c.s.a : Int), .int .u64 (c.s.b : Int), .int .u64 (c.s.c : Int), .int .u64 (c.s.d : Int)]
theorem Tryd.cells44 : Tryd.prog.cellsOf 44 = 4 := by kernel_rfl
theorem Tryd.cells3 : Tryd.prog.cellsOf 3 = 1 := by kernel_rfl
theorem Tryd.fields46 : (Tryd.prog.fieldsOf 46).toList.map (fun f => (f.name, f.type, f.offset)) = [("Op", 3, 0), ("Set", 44, 1)] := by kernel_rfl
theorem fields_two : ∃ f g, (Tryd.prog.fieldsOf 46).toList = [f, g] ∧ f.name = "Op" ∧ f.type = 3 ∧ f.offset = 0 ∧ g.name = "Set" ∧ g.type = 44 ∧ g.offset = 1 := by
  have h := Tryd.fields46
  generalize (Tryd.prog.fieldsOf 46).toList = L at h ⊢
  match L, h with
  | [], h => simp at h
  | [_], h => simp at h
  | _ :: _ :: _ :: _, h => simp at h
  | [f, g], h =>
    simp only [List.map_cons, List.map_nil, List.cons.injEq, Prod.mk.injEq, and_true] at h
    exact ⟨f, g, rfl, h.1.1, h.1.2.1, h.1.2.2, h.2.1, h.2.2.1, h.2.2.2⟩
theorem cel_eq (o o' : Int) (S S' : W4) : decide ((⟨o, S⟩ : Cel) = ⟨o', S'⟩) = ((o == o') && decide (S = S')) := by
  rw [Bool.eq_iff_iff]
  simp
theorem equal5 (d : Nat) (o o' : Int) (a b c e a' b' c' e' : Nat) (w : World) :
    (Op.equalIn (d + 3) 46 (.agg #[.int .i64 o, .int .u64 (a : Int), .int .u64 (b : Int), .int .u64 (c : Int), .int .u64 (e : Int)]) (.agg #[.int .i64 o', .int .u64 (a' : Int), .int .u64 (b' : Int), .int .u64 (c' : Int), .int .u64 (e' : Int)])).run Tryd.prog w = .ok (decide ((⟨o, ⟨a, b, c, e⟩⟩ : Cel) = ⟨o', ⟨a', b', c', e'⟩⟩)) w := by
  obtain ⟨f, g, hf, f1, f2, f3, g1, g2, g3⟩ := fields_two
  have p0 : ∀ x0 x1 x2 x3 x4 : Value, (part 3 #[x0, x1, x2, x3, x4] 0).run Tryd.prog w = .ok x0 w := fun _ _ _ _ _ => by simp [part, isAgg, run_underlying Tryd.underlying3]
  have p1 : ∀ x0 x1 x2 x3 x4 : Value, (part 44 #[x0, x1, x2, x3, x4] 1).run Tryd.prog w = .ok (.agg #[x1, x2, x3, x4]) w := fun _ _ _ _ _ => by simp [part, Tryd.isAgg44, Tryd.sizeOf44]
  have ht : Tryd.prog.underlying 46 = some (.struct (Tryd.prog.fieldsOf 46)) := by unfold Program.fieldsOf; rw [Tryd.underlying46]
  rw [run_equalIn_struct w (d + 2) 46 _ _ ht (by kernel_rfl), hf, cel_eq]
  have n1 : ("Op" : String) ≠ "_" := by decide
  have n2 : ("Set" : String) ≠ "_" := by decide
  simp only [Op.eqFields, f1, f2, f3, g1, g2, g3, if_pos n1, if_pos n2, Sem.run_bind, p0, Result.andThen_ok]
  rw [run_equalIn_int w (d + 1) 3 .i64 .i64 _ _ Tryd.underlying3]
  simp only [Result.andThen_ok]
  cases h1 : (o == o') with
  | false => simp
  | true =>
    have h4 := equal4 d a b c e a' b' c' e' w
    simp only [valB] at h4
    simp [p1, h4]
    cases hd : decide ((⟨a, b, c, e⟩ : W4) = ⟨a', b', c', e'⟩) <;> simp_all

/-- are two lists of cells alike? -/
def sameB (l m : List Cel) : Bool := decide (l = m)

set_option maxHeartbeats 2000000 in
theorem sameC (v v' : Value) (l m : List Cel) (w : World) (hl : l.length ≤ 1000000) (hA : Cels w v l) (hB : Cels w v' m) : Calls Tryd.prog 12 #[v, v'] w fun e w' => e = .returned (.bool (decide (l = m))) ∧ Below w.heap.size w w' := by
  obtain ⟨av, cv, rfl, _, _, _, hAt⟩ := hA
  obtain ⟨bv, dv, rfl, _, _, _, hBt⟩ := hB
  have hAt := hid hAt
  have hBt := hid hBt
  by_cases hlen : l.length = m.length
  · have hlz : ((l.length : Int) == (m.length : Int)) = true := beq_iff_eq.2 (by omega)
    have hend : Hid ((∀ j (h : j < l.length) (h' : j < m.length), l[j] = m[j]) → decide (l = m) = true) := hid (fun h => decide_eq_true (List.ext_getElem hlen h))
    have hno : Hid (∀ j (h : j < l.length) (h' : j < m.length), l[j] ≠ m[j] → decide (l = m) = false) := hid (fun j h h' hne => decide_eq_false (fun e => hne (by subst e; rfl)))
    generalize decide (l = m) = R at hend hno ⊢
    rw [← hlen] at hlz ⊢
    have hlen' := hid hlen
    clear hlen
    go_enter Tryd.func12, Tryd.ntmps12
    go_wp2
    go_loopw [5] (fun i wr => ∃ k : Nat, k ≤ l.length ∧ i = .int .i64 k ∧ Hid (∀ j (h : j < l.length) (h' : j < m.length), j < k → l[j] = m[j]) ∧ Below w.heap.size w wr) (fun i _ => l.length - (intOf i).toNat)
    case atStart => exact ⟨0, Nat.zero_le _, rfl, hid (fun j _ _ h => absurd h (Nat.not_lt_zero _)), Below.refl _ _⟩
    case round =>
      obtain ⟨k, hk, rfl, hlow, hbl⟩ := hrel
      by_cases hlt : k < l.length
      · have hltz : (k : Int) < (l.length : Int) := by omega
        obtain ⟨b1, o1, rfl, _, h5⟩ := hAt.out k hlt
        obtain ⟨b2, o2, rfl, _, h6⟩ := hBt.out k (by have := hlen'.out; omega)
        have h5 := h5.keep (bl_step hbl (Below.refl _ _).drew)
        have h6 := h6.keep (bl_step hbl (Below.refl _ _).drew)
        have hno1 := hid (hno.out k hlt (by have := hlen'.out; omega))
        have hkm : k < m.length := by have := hlen'.out; omega
        have hyes : Hid (l[k] = m[k] → ∀ j (h : j < l.length) (h' : j < m.length), j < k + 1 → l[j] = m[j]) := hid (fun e j h h' hj => by
          by_cases e' : j = k
          · subst e'; exact e
          · exact hlow.out j h h' (by omega))
        generalize l[k] = c at h5 hno1 hyes
        generalize m[k] = c' at h6 hno1 hyes
        obtain ⟨op, a1, a2, a3, a4⟩ := c
        obtain ⟨op', a1', a2', a3', a4'⟩ := c'
        obtain ⟨d0, d1, d2, d3, d4⟩ := h5
        obtain ⟨e0, e1, e2, e3, e4⟩ := h6
        simp only at d0 d1 d2 d3 d4 e0 e1 e2 e3 e4
        have hgt := Tryd.eqGuardType46
        cases hc : decide ((⟨op, ⟨a1, a2, a3, a4⟩⟩ : Cel) = ⟨op', ⟨a1', a2', a3', a4'⟩⟩) with
        | true =>
          have he : ∀ u, (Op.equalIn 10000 46 (.agg #[.int .i64 op, .int .u64 (a1 : Int), .int .u64 (a2 : Int), .int .u64 (a3 : Int), .int .u64 (a4 : Int)]) (.agg #[.int .i64 op', .int .u64 (a1' : Int), .int .u64 (a2' : Int), .int .u64 (a3' : Int), .int .u64 (a4' : Int)])).run Tryd.prog u = .ok true u := fun u => (equal5 9997 op op' a1 a2 a3 a4 a1' a2' a3' a4' u).trans (by rw [hc])
          have hy := hid (hyes.out (of_decide_eq_true hc))
          clear hc hno1 hyes
          go_wp2_with fail
          go_region_with (fail)
          all_goals
            go_wp2
            exact ⟨⟨k + 1, by omega, by go_num, hy, bl_step hbl (Below.refl _ _).drew⟩, by simp [intOf]; omega⟩
        | false =>
          have he : ∀ u, (Op.equalIn 10000 46 (.agg #[.int .i64 op, .int .u64 (a1 : Int), .int .u64 (a2 : Int), .int .u64 (a3 : Int), .int .u64 (a4 : Int)]) (.agg #[.int .i64 op', .int .u64 (a1' : Int), .int .u64 (a2' : Int), .int .u64 (a3' : Int), .int .u64 (a4' : Int)])).run Tryd.prog u = .ok false u := fun u => (equal5 9997 op op' a1 a2 a3 a4 a1' a2' a3' a4' u).trans (by rw [hc])
          have hR : R = false := hno1.out (of_decide_eq_false hc)
          clear hc hno1 hyes
          subst hR
          go_wp2_with fail
          go_region_with (fail)
          all_goals
            go_wp2
            go_ret
            exact ⟨rfl, bl_step hbl (Below.refl _ _).drew⟩
      · have hltz : ¬ (k : Int) < (l.length : Int) := by omega
        have hR : R = true := hend.out (fun j h h' => hlow.out j h h' (by omega))
        subst hR
        go_wp2
        go_ret
        exact ⟨rfl, hbl⟩
  · have hlz : ((l.length : Int) == (m.length : Int)) = false := beq_eq_false_iff_ne.2 (by omega)
    have e : decide (l = m) = false := decide_eq_false (fun e => hlen (by rw [e]))
    rw [e]
    go_enter Tryd.func12, Tryd.ntmps12
    go_wp2
    go_ret
    exact ⟨rfl, Below.refl _ _⟩

end Go.Proofs.YtjiljfmejgiabaaDoor
namespace Go.Proofs.YtjiljfmejgiabaaDoor
open Go.RowKit

def cellsC (c : Cel) : List Value := [.int .i64 c.op, .int .u64 (c.s.a : Int), .int .u64 (c.s.b : Int), .int .u64 (c.s.c : Int), .int .u64 (c.s.d : Int)]
def flatC (l : List Cel) : List Value := l.flatMap cellsC
theorem flatC_app (l m : List Cel) : flatC (l ++ m) = flatC l ++ flatC m := by unfold flatC; rw [List.flatMap_append]
theorem flatC_len : ∀ l : List Cel, (flatC l).length = l.length * 5
  | [] => rfl
  | c :: t => by
    have ih := flatC_len t
    unfold flatC at ih ⊢
    rw [List.flatMap_cons, List.length_append, ih, List.length_cons]
    simp [cellsC]
    omega
def cellV (c : Cel) : Nat → Value
  | 0 => .int .i64 c.op
  | 1 => .int .u64 (c.s.a : Int)
  | 2 => .int .u64 (c.s.b : Int)
  | 3 => .int .u64 (c.s.c : Int)
  | _ => .int .u64 (c.s.d : Int)
theorem flatC_at : ∀ (l : List Cel) (j i : Nat) (hj : j < l.length), i < 5 → (flatC l)[j * 5 + i]? = some (cellV l[j] i)
  | c :: t, 0, i, _, hi => by
    have h5 : i = 0 ∨ i = 1 ∨ i = 2 ∨ i = 3 ∨ i = 4 := by omega
    rcases h5 with rfl | rfl | rfl | rfl | rfl <;> rfl
  | c :: t, j + 1, i, hj, hi => by
    have ih := flatC_at t j i (by simpa using hj) hi
    unfold flatC at ih ⊢
    rw [List.flatMap_cons, show (j + 1) * 5 + i = 5 + (j * 5 + i) by omega, List.getElem?_append_right (by simp [cellsC])]
    simpa [cellsC] using ih
theorem at5_of {w : World} {b o : Nat} {c : Cel} (h : ∀ i, i < 5 → w.cell? ⟨b, o + i, none⟩ = some (cellV c i)) : At5 w b o c := ⟨h 0 (by omega), h 1 (by omega), h 2 (by omega), h 3 (by omega), h 4 (by omega)⟩
theorem At5.word {w : World} {b o : Nat} {c : Cel} (h : At5 w b o c) (i : Nat) (hi : i < 5) : w.cell? ⟨b, o + i, none⟩ = some (cellV c i) := by
  have h5 : i = 0 ∨ i = 1 ∨ i = 2 ∨ i = 3 ∨ i = 4 := by omega
  rcases h5 with rfl | rfl | rfl | rfl | rfl
  · exact h.1
  · exact h.2.1
  · exact h.2.2.1
  · exact h.2.2.2.1
  · exact h.2.2.2.2
abbrev OwnC (w : World) (B : Nat) (v : Value) (l : List Cel) : Prop := w.ownsRow B 46 5 v l.length (flatC l)
theorem own_keep {w w' : World} {base size n : Nat} {e : TypeId} {v : Value} {xs : List Value} (h : w.ownsRow base e size v n xs) (hb : ∀ k, v.ownBlock = some k → w'.heap[k]? = w.heap[k]?) : w'.ownsRow base e size v n xs := by
  rcases h.2 with ⟨rfl, h0⟩ | ⟨g, cap, cur, rfl, h1, h2, h3⟩
  · exact ⟨h.1, .inl ⟨rfl, h0⟩⟩
  · exact ⟨h.1, .inr ⟨g, cap, cur, rfl, h1, (hb g rfl).trans h2, h3⟩⟩
theorem own_below {w w' : World} {base size n : Nat} {e : TypeId} {v : Value} {xs : List Value} (h : w.ownsRow base e size v n xs) (hb : Below w.heap.size w w') : w'.ownsRow base e size v n xs :=
  own_keep h fun k hk => hb.block k (h.lt k hk).2
theorem Cels.of_own {w : World} {B : Nat} {v : Value} {l : List Cel} (h : OwnC w B v l) (hf : ∀ c ∈ l, FitC c) : Cels w v l := by
  have h' := h
  rcases h.2 with ⟨rfl, h0⟩ | ⟨g, cap, cur, rfl, _, _, hc, _⟩
  · exact ⟨none, 0, by rw [h0], by omega, fun _ => rfl, hf, fun j hj => absurd hj (by omega)⟩
  · refine ⟨_, cap, rfl, hc, fun h => (by cases h), hf, fun j hj => ⟨g, 0, rfl, (h'.lt g rfl).2, at5_of fun i hi => ?_⟩⟩
    have := h'.cells rfl (j * 5 + i) _ (flatC_at l j i hj hi)
    rw [Go.WideShapes.add_plain] at this
    rwa [Nat.add_assoc]
theorem flatC_one (l : List Cel) : ∀ u ∈ flatC l, u.oneCell' = true := fun u hu => by
  unfold flatC at hu
  obtain ⟨c, _, hc⟩ := List.mem_flatMap.1 hu
  simp [cellsC] at hc
  rcases hc with rfl | rfl | rfl | rfl | rfl <;> rfl
theorem Cels.news {w : World} {b o : Nat} {l : List Cel} (h : ∀ j (hj : j < l.length), At5 w b (o + j * 5) l[j]) : ∀ j u, (flatC l)[j]? = some u → w.cell? ((⟨b, o, none⟩ : Addr).add j) = some u := fun j u hu => by
  have hj : j < l.length * 5 := by
    rcases Nat.lt_or_ge j (l.length * 5) with h' | h'
    · exact h'
    · rw [List.getElem?_eq_none (by rw [flatC_len]; exact h')] at hu; cases hu
  have e : j = j / 5 * 5 + j % 5 := by omega
  have hq : j / 5 < l.length := by omega
  rw [e, flatC_at l (j / 5) (j % 5) hq (by omega)] at hu
  injection hu with hu
  subst hu
  rw [Go.WideShapes.add_plain]
  have := (h (j / 5) hq).word (j % 5) (by omega)
  rwa [Nat.add_assoc, ← e] at this
theorem Cels.parts {w : World} {v : Value} {l : List Cel} (h : Cels w v l) : (v = .slice none 0 0 ∧ l = []) ∨ ∃ ad cap, v = .slice (some ad) l.length cap ∧ ∀ j u, (flatC l)[j]? = some u → w.cell? (ad.add j) = some u := by
  obtain ⟨a, cap, rfl, hcap, hnil, _, hc⟩ := h
  cases a with
  | none =>
    have h0 := hnil rfl
    have hl : l = [] := List.length_eq_zero_iff.1 (by omega)
    subst hl
    exact Or.inl ⟨by rw [h0]; rfl, rfl⟩
  | some ad =>
    refine Or.inr ⟨ad, cap, rfl, ?_⟩
    by_cases h0 : l = []
    · subst h0; intro j u hu; simp [flatC] at hu
    · obtain ⟨b, o, e, _, _⟩ := hc 0 (List.length_pos_iff.2 h0)
      injection e with e
      subst e
      refine Cels.news fun j hj => ?_
      obtain ⟨b', o', e', _, h5⟩ := hc j hj
      injection e' with e'
      injection e' with e1 e2
      subst e1; subst e2
      exact h5
theorem Tryd.info46 : (Tryd.prog.info? 46).map (fun i => (i.zero, i.size, i.bytes)) = some (some (.agg #[.int .i64 0, .int .u64 0, .int .u64 0, .int .u64 0, .int .u64 0]), 5, 40) := by kernel_rfl
theorem wp_app5 {ops : Array Oper} {rest : List Oper} {o : Oper} {a : Act} {Q : Exit → Act → World → Prop} (w : World) (hgd : o.guard = none) (s x : Operand)
    (ho : o.op = .call { callee := .builtin .append, args := #[s, x], argTypes := #[22, 22] })
    (B : Nat) (l1 l2 : List Cel) (v vx : Value) (hs : a.eval s = v) (hx : a.eval x = vx) (hown : OwnC w B v l1) (hN : Cels w vx l2) (hl : (l1.length + l2.length) * 40 ≤ 140737488355328) (hB : B ≤ w.heap.size)
    (h : ∀ v' w', OwnC w' B v' (l1 ++ l2) → Below B w w' → wpList Tryd.prog ops Q rest (a.put o.dst v') w') : wpList Tryd.prog ops Q (o :: rest) a w := by
  obtain ⟨i0, hi, hz0, hz1, hz2⟩ := info_parts Tryd.info46
  rcases hN.parts with ⟨rfl, rfl⟩ | ⟨ad, cap, rfl, hnews⟩
  · refine wpList_append_own_none hgd s x 22 ho B 46 i0 5 Tryd.underlying22 hi v _ _ hs hown hx ?_
    rw [List.append_nil] at h
    exact h v w hown ((Below.refl _ w).mono hB)
  · refine wpList_append_own w hgd s x 22 ho B 46 i0 (.agg #[.int .i64 0, .int .u64 0, .int .u64 0, .int .u64 0, .int .u64 0]) 5 40 Tryd.underlying22 hi hz0 hz1 hz2 rfl (by decide) v _ _ hs hown ad l2.length cap (flatC l2) hx (flatC_len l2) hnews (flatC_one l2) (by unfold maxLen; omega) hl hB ?_
    intro v' w' hO hg _
    refine h v' w' ?_ (((Below.refl _ w).mono hB).grown hg hB (fun k hk => (hown.lt k hk).1))
    unfold OwnC
    rw [flatC_app, List.length_append]
    exact hO
theorem OwnC.lit0 (w : World) : OwnC (w.alloc (.cells #[] 46)) w.heap.size (.slice (some ⟨w.heap.size, 0, none⟩) 0 0) [] :=
  World.ownsRow_lit w #[] 0 (Nat.le_refl _) (by unfold maxLen; omega) rfl

theorem copiedC (v : Value) (l : List Cel) (w : World) (hl : l.length * 40 ≤ 140737488351232) (hA : Cels w v l) :
    Calls Tryd.prog 7 #[v] w fun e w' => ∃ v', e = .returned v' ∧ OwnC w' w.heap.size v' l ∧ Cels w' v' l ∧ Below w.heap.size w w' := by
  have hA1 := hid (hA.keep (al' w (.cells #[] 46)))
  have hO := hid (OwnC.lit0 w)
  have hf := hid (show ∀ c ∈ l, FitC c from by obtain ⟨_, _, _, _, _, h, _⟩ := hA; exact h)
  have hsh : ∃ a cap, v = .slice a l.length cap := by obtain ⟨a, cap, e, _⟩ := hA; exact ⟨a, cap, e⟩
  obtain ⟨a, cap, rfl⟩ := hsh
  clear hA
  go_enter Tryd.func7, Tryd.ntmps7
  go_wp2_with (at_builtin; refine wp_app5 _ rfl _ _ rfl w.heap.size [] l _ _ rfl rfl hO.out hA1.out (by simp; omega) (by simp) ?_; intro v' w' hO' hb')
  go_ret
  exact ⟨_, rfl, hO', Cels.of_own (l := l) hO' hf.out, (al' w _).trans hb'⟩

end Go.Proofs.YtjiljfmejgiabaaDoor
