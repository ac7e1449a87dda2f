/- Rows of texts that need not lie at their block's beginning: append to them. -/
import Derived.Test.YtnhabinnmkjnbaaEds
import Derived.ArgAppend
namespace Go.Proofs.Ytnhabinnmkjnbaa
open Go.RowKit

theorem info9' : (Try.prog.info? 9).map (fun i => (i.zero, i.size, i.bytes)) = some (some (.string ⟨#[]⟩), 1, 16) := by kernel_rfl

def strs (l : List ByteArray) : List Value := l.map Value.string

/-- a slice of texts, the one that owns its block -/
def rowAt (w : World) (v : Value) (xs : List ByteArray) : Prop :=
  (v = .slice none 0 0 ∧ xs = []) ∨ ∃ g o cap cur, v = .slice (some ⟨g, o, none⟩) xs.length cap ∧ w.heap[g]? = some (.cells cur 9 (0, 0)) ∧ xs.length ≤ cap ∧ cap ≤ maxLen ∧ cur.size = o + cap ∧ (cur.toList.drop o).take xs.length = strs xs

theorem rowAt.keep {w w' : World} {v : Value} {xs : List ByteArray} (h : rowAt w v xs) (hb : ∀ k, v.ownBlock = some k → w'.heap[k]? = w.heap[k]?) : rowAt w' v xs := by
  rcases h with h | ⟨g, o, cap, cur, rfl, h2, h3⟩
  · exact .inl h
  · exact .inr ⟨g, o, cap, cur, rfl, (hb g rfl).trans h2, h3⟩
theorem rowAt.lt {w : World} {v : Value} {xs : List ByteArray} (h : rowAt w v xs) {k : Nat} (e : v.ownBlock = some k) : k < w.heap.size ∧ ∃ cs, w.heap[k]? = some (.cells cs 9 (0, 0)) := by
  rcases h with ⟨rfl, _⟩ | ⟨g, o, cap, cur, rfl, h2, h3⟩
  · cases e
  · simp [Value.ownBlock] at e
    subst e
    exact ⟨blk_lt h2, cur, h2⟩
theorem rowAt.form {w : World} {v : Value} {xs : List ByteArray} (h : rowAt w v xs) : ∃ a c, v = .slice a xs.length c := by
  rcases h with ⟨rfl, rfl⟩ | ⟨g, o, cap, cur, rfl, h2, h3⟩
  · exact ⟨none, 0, rfl⟩
  · exact ⟨_, _, rfl⟩
theorem rowAt.alloc {w : World} {v : Value} {xs : List ByteArray} (h : rowAt w v xs) (o : Obj) : rowAt (w.alloc o) v xs := h.keep fun k e => Below.heap_alloc w o k (h.lt e).1
theorem rowAt.cell {w : World} {g o cap : Nat} {xs : List ByteArray} (h : rowAt w (.slice (some ⟨g, o, none⟩) xs.length cap) xs) (j : Nat) (hj : j < xs.length) : w.cell? ⟨g, o + j, none⟩ = some (.string xs[j]) := by
  rcases h with ⟨h1, _⟩ | ⟨g', o', cap', cur, h1, h2, h3, h4, h5, h6⟩
  · cases h1
  · cases h1
    refine blk_cell h2 ?_
    have e := congrArg (fun l => l[j]?) h6
    simp only [List.getElem?_take, if_pos hj, List.getElem?_drop] at e
    rw [Array.getElem?_toList] at e
    rw [e]
    simp [strs, hj]

/-- THE LAW: one text more -/
theorem run_append_row (w : World) (ty : TypeId) (v : Value) (xs : List ByteArray) (x : ByteArray) (h : rowAt w v xs) (ad : Addr) (hn : w.cell? ad = some (.string x)) (_hsp : ad.spot = none) (hl : xs.length ≤ 1000) :
    ∃ g o cap w', (Builtin.append_ #[30, 30] ty #[v, .slice (some ad) 1 1]).run Try.prog w = .ok (.slice (some ⟨g, o, none⟩) (xs.length + 1) cap) w' ∧
      rowAt w' (.slice (some ⟨g, o, none⟩) (xs.length + 1) cap) (xs ++ [x]) ∧ w.grownBy w' v.ownBlock ∧ (v.ownBlock = some g ∨ g = w.heap.size) ∧ g < w'.heap.size := by
  obtain ⟨i0, hi, hz0, hz1, hz2⟩ := info_parts info9'
  have hnews : ∀ j u, [Value.string x][j]? = some u → w.cell? (ad.add j) = some u := by
    intro j u hu
    match j, hu with
    | 0, hu => simp at hu; subst hu; simpa [Addr.add] using hn
  have lies : ∀ (w' : World) (g cap : Nat), w'.ownsRow 0 9 1 (.slice (some ⟨g, 0, none⟩) (xs.length + 1) cap) (xs.length + 1) (strs xs ++ [.string x]) → rowAt w' (.slice (some ⟨g, 0, none⟩) (xs.length + 1) cap) (xs ++ [x]) := by
    intro w' g cap ho
    rcases ho.2 with ⟨h1, _⟩ | ⟨g', cap', cur, h1, _, h3, h4, h5, h6, h7⟩
    · cases h1
    · cases h1
      refine .inr ⟨g, 0, cap, cur, by simp, h3, by simpa using h4, h5, by omega, ?_⟩
      rw [List.drop_zero, List.length_append, List.length_singleton]
      rw [Nat.mul_one] at h7
      rw [h7]
      simp [strs]
  rcases h with ⟨rfl, rfl⟩ | ⟨g, o, cap, cur, rfl, h2, h3, h4, h5, h6⟩
  · obtain ⟨g, cap, w', hr, ho, hg, ha, hlt⟩ := run_append_lies (P := Try.prog) w 30 ty 0 9 i0 (.string ⟨#[]⟩) 1 16 Try.underlying30 hi hz0 hz1 hz2 rfl (by decide) (.slice none 0 0) 0 [] (World.ownsRow_nil _ _ _ _) ad 1 1 [.string x] rfl hnews (by intro u hu; simp at hu; subst hu; rfl) (by omega) (by unfold maxLen; omega) (by omega) (Nat.zero_le _) w.heap.size rfl
    refine ⟨g, 0, cap, w', hr, lies w' g cap ho, hg, ?_, hlt⟩
    rcases ha with e | e
    · cases e
    · exact .inr e
  · by_cases hroom : xs.length + 1 ≤ cap
    · have hr := run_append_room_cells (P := Try.prog) w 30 ty 9 i0 Try.underlying30 hi g o xs.length cap ad 1 1 [.string x] (by rw [hz1]; rfl) hnews (by intro u hu; simp at hu; subst hu; rfl) hroom (by
        intro j hj
        have hj0 : j = 0 := by simpa using hj
        subst hj0
        rw [hz1, Nat.mul_one, blk_cell h2 (Array.getElem?_eq_getElem (show o + xs.length + 0 < cur.size by omega))]; rfl) (fun j _ => blk_frozen h2 _)
      rw [hz1, Nat.mul_one] at hr
      obtain ⟨cs', g1, z1, l1⟩ := heap_setCells [.string x] (o + xs.length) w cur h2 (by simp; omega)
      refine ⟨g, o, cap, _, hr, .inr ⟨g, o, cap, cs', by simp, g1, by simpa using hroom, h4, by omega, ?_⟩, ?_, .inl rfl, ?_⟩
      · have e1 : (cur.toList.take (o + xs.length)).drop o = strs xs := by
          rw [← h6, List.drop_take, show o + xs.length - o = xs.length by omega]
        have hlen : (cur.toList.take (o + xs.length)).length = o + xs.length := by
          have hcl : cur.toList.length = cur.size := Array.length_toList
          rw [List.length_take]; omega
        rw [l1, List.append_assoc, List.drop_append_of_le_length (by omega), e1, List.length_append, List.length_singleton, ← List.append_assoc, List.take_append_of_le_length (by simp [strs]), List.take_of_length_le (by simp [strs])]
        simp [strs]
      · have K := Kept.setCells (F := oneBlk g) (w := w) (b := g) (fun _ => rfl) [.string x] (o + xs.length) (Kept.refl (oneBlk g) w)
        exact ⟨K.os, K.tape, K.output, K.size, fun k hk hne => K.block k hk (fun e => hne (congrArg some e))⟩
      · have K := Kept.setCells (F := oneBlk g) (w := w) (b := g) (fun _ => rfl) [.string x] (o + xs.length) (Kept.refl (oneBlk g) w)
        exact Nat.lt_of_lt_of_le (blk_lt h2) K.size
    · have hc : ∀ j u, (strs xs)[j]? = some u → w.cell? ((⟨g, o, none⟩ : Addr).add j) = some u := by
        intro j u hu
        rw [add_off]
        refine blk_cell h2 ?_
        have hj : j < xs.length := by
          have := (List.getElem?_eq_some_iff.1 hu).1
          simpa [strs] using this
        have e := congrArg (fun l => l[j]?) h6
        simp only [List.getElem?_take, if_pos hj, List.getElem?_drop] at e
        rw [Array.getElem?_toList] at e
        rw [e]; exact hu
      obtain ⟨v', w', hr, ho, hg⟩ := run_append_arg_grows (P := Try.prog) w 30 ty 9 i0 (.string ⟨#[]⟩) 1 16 Try.underlying30 hi hz0 hz1 hz2 rfl (by decide) ⟨g, o, none⟩ xs.length cap (strs xs) (by simp [strs]) hc ad 1 1 [.string x] rfl hnews (by omega) (by unfold maxLen; omega) (by omega)
      obtain ⟨g', cap', rfl, hge, hlt⟩ := ho.form (by omega)
      have hsz : g' = w.heap.size := by
        have hgr := hg.size
        rcases Nat.lt_or_ge w.heap.size g' with h | h
        · exfalso
          have k := hr
          rw [run_append_grow (P := Try.prog) w 30 ty 9 i0 (.string ⟨#[]⟩) Try.underlying30 hi hz0 ⟨g, o, none⟩ xs.length cap (strs xs) (by rw [hz1]; simp [strs]) hc ad 1 1 [.string x] (by rw [hz1]; rfl) hnews (by omega) (by omega) (growslice_fits (by omega) (by rw [hz2]; omega))] at k
          injection k with k1 k2
          injection k1 with k3
          injection k3 with k4
          injection k4 with k5
          omega
        · omega
      refine ⟨g', 0, cap', w', hr, lies w' g' cap' (ho.mono (Nat.zero_le _)), ⟨hg.os, hg.tape, hg.output, hg.size, fun k hk _ => hg.block k hk (by simp)⟩, .inr hsz, hlt⟩

/-- at a step of a region that draws its order -/
theorem step_append_row {ops : Array Oper} {o : Oper} {a : Go.Act} {w : World} {K : Go.Act → World → Prop} {Q : Exit → Go.Act → World → Prop} {E : Prop} (hgd : o.guard = none) (s y : Operand)
    (ho : o.op = .call { callee := .builtin .append, args := #[s, y], argTypes := #[30, 30] }) (v : Value) (xs : List ByteArray) (x : ByteArray) (hs : a.eval s = v) (h : rowAt w v xs) (ad : Addr) (hx : a.eval y = .slice (some ad) 1 1)
    (hn : w.cell? ad = some (.string x)) (hsp : ad.spot = none) (hl : xs.length ≤ 1000) (H : Nat) (hH : w.heap.size = H)
    (k : ∀ g off cap w', rowAt w' (.slice (some ⟨g, off, none⟩) (xs.length + 1) cap) (xs ++ [x]) → w.grownBy w' v.ownBlock → (v.ownBlock = some g ∨ g = H) → g < w'.heap.size → K (a.put o.dst (.slice (some ⟨g, off, none⟩) (xs.length + 1) cap)) w') :
    if Region.wanted o (yielded ops a.tmps) = true then Oper.wp Try.prog o a w K Q else E := by
  have hw : Region.wanted o (yielded ops a.tmps) = true := by simp [Region.wanted, hgd]
  rw [if_pos hw]
  obtain ⟨g, off, cap, w', hr, h2, h3, h4, h5⟩ := run_append_row w o.type v xs x h ad hn hsp hl
  unfold Oper.wp execOp
  simp only [ho, resolve, invoke, builtin, Sem.run_bind, Sem.run_pure, Result.andThen_ok, List.map_toArray, List.map_cons, List.map_nil, hs, hx, hr]
  exact k g off cap w' h2 h3 (by rw [← hH]; exact h4) h5

end Go.Proofs.Ytnhabinnmkjnbaa
