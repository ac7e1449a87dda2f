/- Slices of cells: own ones, appended ones; copied. -/
import Derived.Test.YtjiljfmejgiabaaSame
import Derived.Laws.AppendOwnNone
import Derived.Laws.OwnMore
namespace Go.Proofs.Ytjiljfmejgiabaa
open Go.RowKit

def cellsC (c : Cel) : List Value := [.int .i64 c.op, .int .u64 (c.s.a : Int), .int .u64 (c.s.b : Int), .int .u64 (c.s.c : Int), .int .u64 (c.s.d : Int)]
def flatC (l : List Cel) : List Value := l.flatMap cellsC
theorem flatC_app (l m : List Cel) : flatC (l ++ m) = flatC l ++ flatC m := by unfold flatC; rw [List.flatMap_append]
theorem flatC_len : ∀ l : List Cel, (flatC l).length = l.length * 5
  | [] => rfl
  | c :: t => by
    have ih := flatC_len t
    unfold flatC at ih ⊢
    rw [List.flatMap_cons, List.length_append, ih, List.length_cons]
    simp [cellsC]
    omega
def cellV (c : Cel) : Nat → Value
  | 0 => .int .i64 c.op
  | 1 => .int .u64 (c.s.a : Int)
  | 2 => .int .u64 (c.s.b : Int)
  | 3 => .int .u64 (c.s.c : Int)
  | _ => .int .u64 (c.s.d : Int)
theorem flatC_at : ∀ (l : List Cel) (j i : Nat) (hj : j < l.length), i < 5 → (flatC l)[j * 5 + i]? = some (cellV l[j] i)
  | c :: t, 0, i, _, hi => by
    have h5 : i = 0 ∨ i = 1 ∨ i = 2 ∨ i = 3 ∨ i = 4 := by omega
    rcases h5 with rfl | rfl | rfl | rfl | rfl <;> rfl
  | c :: t, j + 1, i, hj, hi => by
    have ih := flatC_at t j i (by simpa using hj) hi
    unfold flatC at ih ⊢
    rw [List.flatMap_cons, show (j + 1) * 5 + i = 5 + (j * 5 + i) by omega, List.getElem?_append_right (by simp [cellsC])]
    simpa [cellsC] using ih
theorem at5_of {w : World} {b o : Nat} {c : Cel} (h : ∀ i, i < 5 → w.cell? ⟨b, o + i, none⟩ = some (cellV c i)) : At5 w b o c := ⟨h 0 (by omega), h 1 (by omega), h 2 (by omega), h 3 (by omega), h 4 (by omega)⟩
theorem At5.word {w : World} {b o : Nat} {c : Cel} (h : At5 w b o c) (i : Nat) (hi : i < 5) : w.cell? ⟨b, o + i, none⟩ = some (cellV c i) := by
  have h5 : i = 0 ∨ i = 1 ∨ i = 2 ∨ i = 3 ∨ i = 4 := by omega
  rcases h5 with rfl | rfl | rfl | rfl | rfl
  · exact h.1
  · exact h.2.1
  · exact h.2.2.1
  · exact h.2.2.2.1
  · exact h.2.2.2.2
abbrev OwnC (w : World) (B : Nat) (v : Value) (l : List Cel) : Prop := w.ownsRow B 33 5 v l.length (flatC l)
theorem own_keep {w w' : World} {base size n : Nat} {e : TypeId} {v : Value} {xs : List Value} (h : w.ownsRow base e size v n xs) (hb : ∀ k, v.ownBlock = some k → w'.heap[k]? = w.heap[k]?) : w'.ownsRow base e size v n xs := by
  rcases h.2 with ⟨rfl, h0⟩ | ⟨g, cap, cur, rfl, h1, h2, h3⟩
  · exact ⟨h.1, .inl ⟨rfl, h0⟩⟩
  · exact ⟨h.1, .inr ⟨g, cap, cur, rfl, h1, (hb g rfl).trans h2, h3⟩⟩
theorem own_below {w w' : World} {base size n : Nat} {e : TypeId} {v : Value} {xs : List Value} (h : w.ownsRow base e size v n xs) (hb : Below w.heap.size w w') : w'.ownsRow base e size v n xs :=
  own_keep h fun k hk => hb.block k (h.lt k hk).2
theorem Cels.of_own {w : World} {B : Nat} {v : Value} {l : List Cel} (h : OwnC w B v l) (hf : ∀ c ∈ l, FitC c) : Cels w v l := by
  have h' := h
  rcases h.2 with ⟨rfl, h0⟩ | ⟨g, cap, cur, rfl, _, _, hc, _⟩
  · exact ⟨none, 0, by rw [h0], by omega, fun _ => rfl, hf, fun j hj => absurd hj (by omega)⟩
  · refine ⟨_, cap, rfl, hc, fun h => (by cases h), hf, fun j hj => ⟨g, 0, rfl, (h'.lt g rfl).2, at5_of fun i hi => ?_⟩⟩
    have := h'.cells rfl (j * 5 + i) _ (flatC_at l j i hj hi)
    rw [Go.WideShapes.add_plain] at this
    rwa [Nat.add_assoc]
theorem flatC_one (l : List Cel) : ∀ u ∈ flatC l, u.oneCell' = true := fun u hu => by
  unfold flatC at hu
  obtain ⟨c, _, hc⟩ := List.mem_flatMap.1 hu
  simp [cellsC] at hc
  rcases hc with rfl | rfl | rfl | rfl | rfl <;> rfl
theorem Cels.news {w : World} {b o : Nat} {l : List Cel} (h : ∀ j (hj : j < l.length), At5 w b (o + j * 5) l[j]) : ∀ j u, (flatC l)[j]? = some u → w.cell? ((⟨b, o, none⟩ : Addr).add j) = some u := fun j u hu => by
  have hj : j < l.length * 5 := by
    rcases Nat.lt_or_ge j (l.length * 5) with h' | h'
    · exact h'
    · rw [List.getElem?_eq_none (by rw [flatC_len]; exact h')] at hu; cases hu
  have e : j = j / 5 * 5 + j % 5 := by omega
  have hq : j / 5 < l.length := by omega
  rw [e, flatC_at l (j / 5) (j % 5) hq (by omega)] at hu
  injection hu with hu
  subst hu
  rw [Go.WideShapes.add_plain]
  have := (h (j / 5) hq).word (j % 5) (by omega)
  rwa [Nat.add_assoc, ← e] at this
theorem Cels.parts {w : World} {v : Value} {l : List Cel} (h : Cels w v l) : (v = .slice none 0 0 ∧ l = []) ∨ ∃ ad cap, v = .slice (some ad) l.length cap ∧ ∀ j u, (flatC l)[j]? = some u → w.cell? (ad.add j) = some u := by
  obtain ⟨a, cap, rfl, hcap, hnil, _, hc⟩ := h
  cases a with
  | none =>
    have h0 := hnil rfl
    have hl : l = [] := List.length_eq_zero_iff.1 (by omega)
    subst hl
    exact Or.inl ⟨by rw [h0]; rfl, rfl⟩
  | some ad =>
    refine Or.inr ⟨ad, cap, rfl, ?_⟩
    by_cases h0 : l = []
    · subst h0; intro j u hu; simp [flatC] at hu
    · obtain ⟨b, o, e, _, _⟩ := hc 0 (List.length_pos_iff.2 h0)
      injection e with e
      subst e
      refine Cels.news fun j hj => ?_
      obtain ⟨b', o', e', _, h5⟩ := hc j hj
      injection e' with e'
      injection e' with e1 e2
      subst e1; subst e2
      exact h5
theorem Try.info33 : (Try.prog.info? 33).map (fun i => (i.zero, i.size, i.bytes)) = some (some (.agg #[.int .i64 0, .int .u64 0, .int .u64 0, .int .u64 0, .int .u64 0]), 5, 40) := by kernel_rfl
theorem wp_app5 {ops : Array Oper} {rest : List Oper} {o : Oper} {a : Act} {Q : Exit → Act → World → Prop} (w : World) (hgd : o.guard = none) (s x : Operand)
    (ho : o.op = .call { callee := .builtin .append, args := #[s, x], argTypes := #[22, 22] })
    (B : Nat) (l1 l2 : List Cel) (v vx : Value) (hs : a.eval s = v) (hx : a.eval x = vx) (hown : OwnC w B v l1) (hN : Cels w vx l2) (hl : (l1.length + l2.length) * 40 ≤ 140737488355328) (hB : B ≤ w.heap.size)
    (h : ∀ v' w', OwnC w' B v' (l1 ++ l2) → Below B w w' → wpList Try.prog ops Q rest (a.put o.dst v') w') : wpList Try.prog ops Q (o :: rest) a w := by
  obtain ⟨i0, hi, hz0, hz1, hz2⟩ := info_parts Try.info33
  rcases hN.parts with ⟨rfl, rfl⟩ | ⟨ad, cap, rfl, hnews⟩
  · refine wpList_append_own_none hgd s x 22 ho B 33 i0 5 Try.underlying22 hi v _ _ hs hown hx ?_
    rw [List.append_nil] at h
    exact h v w hown ((Below.refl _ w).mono hB)
  · refine wpList_append_own w hgd s x 22 ho B 33 i0 (.agg #[.int .i64 0, .int .u64 0, .int .u64 0, .int .u64 0, .int .u64 0]) 5 40 Try.underlying22 hi hz0 hz1 hz2 rfl (by decide) v _ _ hs hown ad l2.length cap (flatC l2) hx (flatC_len l2) hnews (flatC_one l2) (by unfold maxLen; omega) hl hB ?_
    intro v' w' hO hg _
    refine h v' w' ?_ (((Below.refl _ w).mono hB).grown hg hB (fun k hk => (hown.lt k hk).1))
    unfold OwnC
    rw [flatC_app, List.length_append]
    exact hO
theorem OwnC.lit0 (w : World) : OwnC (w.alloc (.cells #[] 33)) w.heap.size (.slice (some ⟨w.heap.size, 0, none⟩) 0 0) [] :=
  World.ownsRow_lit w #[] 0 (Nat.le_refl _) (by unfold maxLen; omega) rfl

theorem copiedC (v : Value) (l : List Cel) (w : World) (hl : l.length * 40 ≤ 140737488351232) (hA : Cels w v l) :
    Calls Try.prog 7 #[v] w fun e w' => ∃ v', e = .returned v' ∧ OwnC w' w.heap.size v' l ∧ Cels w' v' l ∧ Below w.heap.size w w' := by
  have hA1 := hid (hA.keep (al' w (.cells #[] 33)))
  have hO := hid (OwnC.lit0 w)
  have hf := hid (show ∀ c ∈ l, FitC c from by obtain ⟨_, _, _, _, _, h, _⟩ := hA; exact h)
  have hsh : ∃ a cap, v = .slice a l.length cap := by obtain ⟨a, cap, e, _⟩ := hA; exact ⟨a, cap, e⟩
  obtain ⟨a, cap, rfl⟩ := hsh
  clear hA
  go_enter Try.func7, Try.ntmps7
  go_wp2_with (at_builtin; refine wp_app5 _ rfl _ _ rfl w.heap.size [] l _ _ rfl rfl hO.out hA1.out (by simp; omega) (by simp) ?_; intro v' w' hO' hb')
  go_ret
  exact ⟨_, rfl, hO', Cels.of_own (l := l) hO' hf.out, (al' w _).trans hb'⟩

end Go.Proofs.Ytjiljfmejgiabaa
