/- Slices of sets: own ones, appended ones. -/
import Derived.Test.YtpkndedppfdekaaDoorCounts
import Derived.Laws.AppendOwnNone
namespace Go.Proofs.YtpkndedppfdekaaDoor
open Go.RowKit

def wordV (S : W4) : Nat → Value
  | 0 => .int .u64 (S.a : Int)
  | 1 => .int .u64 (S.b : Int)
  | 2 => .int .u64 (S.c : Int)
  | _ => .int .u64 (S.d : Int)
theorem flatB_at : ∀ (l : List W4) (j i : Nat) (hj : j < l.length), i < 4 → (flatB l)[j * 4 + i]? = some (wordV l[j] i)
  | S :: t, 0, i, _, hi => by
    have h4 : i = 0 ∨ i = 1 ∨ i = 2 ∨ i = 3 := by omega
    rcases h4 with rfl | rfl | rfl | rfl <;> rfl
  | S :: t, j + 1, i, hj, hi => by
    have ih := flatB_at t j i (by simpa using hj) hi
    unfold flatB at ih ⊢
    rw [List.flatMap_cons, show (j + 1) * 4 + i = 4 + (j * 4 + i) by omega, List.getElem?_append_right (by simp)]
    simpa using ih
theorem at4_of {w : World} {b o : Nat} {S : W4} (h : ∀ i, i < 4 → w.cell? ⟨b, o + i, none⟩ = some (wordV S i)) : At4 w b o S := ⟨h 0 (by omega), h 1 (by omega), h 2 (by omega), h 3 (by omega)⟩
theorem At4.word {w : World} {b o : Nat} {S : W4} (h : At4 w b o S) (i : Nat) (hi : i < 4) : w.cell? ⟨b, o + i, none⟩ = some (wordV S i) := by
  have h4 : i = 0 ∨ i = 1 ∨ i = 2 ∨ i = 3 := by omega
  rcases h4 with rfl | rfl | rfl | rfl
  · exact h.1
  · exact h.2.1
  · exact h.2.2.1
  · exact h.2.2.2
theorem Sets.of_own {w : World} {B : Nat} {v : Value} {l : List W4} (h : OwnS w B v l) (hf : ∀ S ∈ l, Fit4 S) : Sets w v l := by
  have h' := h
  rcases h.2 with ⟨rfl, h0⟩ | ⟨g, cap, cur, rfl, _, _, hc, _⟩
  · exact ⟨none, 0, by rw [h0], by omega, fun _ => rfl, hf, fun j hj => absurd hj (by omega)⟩
  · refine ⟨_, cap, rfl, hc, fun h => (by cases h), hf, fun j hj => ⟨g, 0, rfl, (h'.lt g rfl).2, at4_of fun i hi => ?_⟩⟩
    have := h'.cells rfl (j * 4 + i) _ (flatB_at l j i hj hi)
    rw [Go.WideShapes.add_plain] at this
    rwa [Nat.add_assoc]
theorem flatB_one (l : List W4) : ∀ u ∈ flatB l, u.oneCell' = true := fun u hu => by
  unfold flatB at hu
  obtain ⟨S, _, hS⟩ := List.mem_flatMap.1 hu
  simp at hS
  rcases hS with rfl | rfl | rfl | rfl <;> rfl
theorem Sets.news {w : World} {b o : Nat} {l : List W4} (h : ∀ j (hj : j < l.length), At4 w b (o + j * 4) l[j]) : ∀ j u, (flatB l)[j]? = some u → w.cell? ((⟨b, o, none⟩ : Addr).add j) = some u := fun j u hu => by
  have hj : j < l.length * 4 := by
    rcases Nat.lt_or_ge j (l.length * 4) with h' | h'
    · exact h'
    · rw [List.getElem?_eq_none (by rw [flatB_len]; exact h')] at hu; cases hu
  have e : j = j / 4 * 4 + j % 4 := by omega
  have hq : j / 4 < l.length := by omega
  rw [e, flatB_at l (j / 4) (j % 4) hq (by omega)] at hu
  injection hu with hu
  subst hu
  rw [Go.WideShapes.add_plain]
  have := (h (j / 4) hq).word (j % 4) (by omega)
  rwa [Nat.add_assoc, ← e] at this
theorem Sets.parts {w : World} {v : Value} {l : List W4} (h : Sets w v l) : (v = .slice none 0 0 ∧ l = []) ∨ ∃ ad cap, v = .slice (some ad) l.length cap ∧ ∀ j u, (flatB l)[j]? = some u → w.cell? (ad.add j) = some u := by
  obtain ⟨a, cap, rfl, hcap, hnil, _, hc⟩ := h
  cases a with
  | none =>
    have h0 := hnil rfl
    have hl : l = [] := List.length_eq_zero_iff.1 (by omega)
    subst hl
    exact Or.inl ⟨by rw [h0]; rfl, rfl⟩
  | some ad =>
    refine Or.inr ⟨ad, cap, rfl, ?_⟩
    by_cases h0 : l = []
    · subst h0; intro j u hu; simp [flatB] at hu
    · obtain ⟨b, o, e, _, _⟩ := hc 0 (List.length_pos_iff.2 h0)
      injection e with e
      subst e
      refine Sets.news fun j hj => ?_
      obtain ⟨b', o', e', _, h4⟩ := hc j hj
      injection e' with e'
      injection e' with e1 e2
      subst e1; subst e2
      exact h4
theorem wp_app4 {ops : Array Oper} {rest : List Oper} {o : Oper} {a : Act} {Q : Exit → Act → World → Prop} (w : World) (hgd : o.guard = none) (s x : Operand)
    (ho : o.op = .call { callee := .builtin .append, args := #[s, x], argTypes := #[36, 36] })
    (B : Nat) (l1 l2 : List W4) (v vx : Value) (hs : a.eval s = v) (hx : a.eval x = vx) (hown : OwnS w B v l1) (hN : Sets w vx l2) (hl : l1.length + l2.length ≤ 4000000) (hB : B ≤ w.heap.size)
    (h : ∀ v' w', OwnS w' B v' (l1 ++ l2) → Below B w w' → wpList Tryd.prog ops Q rest (a.put o.dst v') w') : wpList Tryd.prog ops Q (o :: rest) a w := by
  obtain ⟨i0, hi, hz0, hz1, hz2⟩ := info_parts Tryd.info25
  rcases hN.parts with ⟨rfl, rfl⟩ | ⟨ad, cap, rfl, hnews⟩
  · refine wpList_append_own_none hgd s x 36 ho B 25 i0 4 Tryd.underlying36 hi v _ _ hs hown hx ?_
    rw [List.append_nil] at h
    exact h v w hown ((Below.refl _ w).mono hB)
  · refine wpList_append_own w hgd s x 36 ho B 25 i0 (.agg #[.int .u64 0, .int .u64 0, .int .u64 0, .int .u64 0]) 4 32 Tryd.underlying36 hi hz0 hz1 hz2 rfl (by decide) v _ _ hs hown ad l2.length cap (flatB l2) hx (flatB_len l2) hnews (flatB_one l2) (by unfold maxLen; omega) (by omega) hB ?_
    intro v' w' hO hg _
    refine h v' w' ?_ (((Below.refl _ w).mono hB).grown hg hB (fun k hk => (hown.lt k hk).1))
    unfold OwnS
    rw [flatB_app, List.length_append]
    exact hO
theorem parts_fit (l : List W4) : ∀ S ∈ partsB l, Fit4 S := fun S hS => by
  unfold partsB at hS
  obtain ⟨r, _, rfl⟩ := List.mem_map.1 hS
  unfold clsB
  exact mkB_fit _
theorem parts_len (l : List W4) : (partsB l).length ≤ 256 := by unfold partsB; rw [List.length_map]; exact repN_len l 256
theorem OwnS.lit0 (w : World) : OwnS (w.alloc (.cells #[] 25)) w.heap.size (.slice (some ⟨w.heap.size, 0, none⟩) 0 0) [] :=
  World.ownsRow_lit w #[] 0 (Nat.le_refl _) (by unfold maxLen; omega) rfl

set_option maxHeartbeats 2000000 in
theorem partsWalk {OK : World → Prop} (H : BytesOK OK) (v : Value) (l : List W4) (w : World) (hl : l.length ≤ 9223372036854775807) (hA : Sets w v l) (hw : OK w) :
    Calls Tryd.prog 6 #[v] w fun e w' => e = .returned (.bool true) ∧ Below w.heap.size w w' := by
  have GW := hid (fun u hu => wakesC H u hu)
  have HK := hid H.keep
  have hA0 := hid hA
  have hw0 := hid hw
  obtain ⟨av, cv, rfl, hx1⟩ := id hA
  clear hA hw hx1
  by_cases hL : 60 < l.length
  · have hL' : (60 : Int) < (l.length : Int) := by omega
    go_enter Tryd.func6, Tryd.ntmps6
    go_wp2_with (go_at_call 8; refine (GW.out _ hw0.out).mono ?_; rintro e w1 ⟨rfl, hb1⟩)
    go_ret
    exact ⟨rfl, hb1⟩
  have hL' : ¬ (60 : Int) < (l.length : Int) := by omega
  have GP : Hid (∀ v u, Sets u v l → OK u → Calls Tryd.prog 24 #[v] u fun e w' => ∃ v', e = .returned v' ∧ OwnS w' u.heap.size v' (partsB l) ∧ Below u.heap.size u w') := hid (fun v u h hu => H.parts v l u (by omega) h hu)
  have GR : Hid (∀ v u, Sets u v l → Calls Tryd.prog 25 #[v] u fun e w' => ∃ v', e = .returned v' ∧ OwnS w' u.heap.size v' (partsB l) ∧ Below u.heap.size u w') := hid (fun v u h => refParts v l u (by omega) h)
  have hFl : Hid (∀ S ∈ l, Fit4 S) := by
    obtain ⟨_, _, _, _, _, hf, _⟩ := hA0.out
    exact hid hf
  have hpf := hid (parts_fit l)
  have hpl := parts_len l
  generalize partsB l = ps at GP GR hpf hpl
  go_enter Tryd.func6, Tryd.ntmps6
  go_wp2_with (first
    | (go_at_call 8; refine (GW.out _ hw0.out).mono ?_; rintro e w1 ⟨rfl, hb1⟩; have k1 := hid (HK.out _ _ hw0.out hb1); have q1 := hid ((hA0.out.keep hb1).keep (al' w1 (.cells #[] 25))))
    | (at_builtin; refine wp_app4 _ rfl _ _ rfl w1.heap.size [] l _ _ rfl rfl (OwnS.lit0 w1) q1.out (by simp; omega) (by simp) ?_; intro v2 w2 hO2 hb2; have hbl2 := bl_step hb1 ((al' w1 _).trans hb2); have k2 := hid (HK.out _ _ hw0.out hbl2))
    | (go_at_call 24; refine (GP.out _ _ (Sets.of_own hO2 hFl.out) k2.out).mono ?_; rintro e w3 ⟨v3, rfl, hO3, hb3⟩; obtain ⟨a3, c3, rfl⟩ := OwnS.shape hO3)
    | (go_at_call 25; refine (GR.out _ _ (hA0.out.keep (bl_step hbl2 hb3))).mono ?_; rintro e w4 ⟨v4, rfl, hO4, hb4⟩; obtain ⟨a4, c4, rfl⟩ := OwnS.shape hO4))
  have hbl4 := bl_step (bl_step hbl2 hb3) hb4
  obtain ⟨_, _, e3, _, _, _, p3⟩ := (Sets.of_own hO3 hpf.out).keep hb4
  obtain ⟨_, _, e4, _, _, _, p4⟩ := Sets.of_own hO4 hpf.out
  injection e3 with e3 _ e3'
  injection e4 with e4 _ e4'
  subst e3 e3' e4 e4'
  have p3 := hid p3
  have p4 := hid p4
  have hgt := Tryd.eqGuardType25
  go_loopw [24] (fun i wr => ∃ k : Nat, k ≤ ps.length ∧ i = .int .i64 k ∧ Below w4.heap.size w4 wr) (fun i _ => ps.length - (intOf i).toNat)
  case atStart => exact ⟨0, Nat.zero_le _, rfl, Below.refl _ _⟩
  case round =>
    obtain ⟨k, hk, rfl, hbq⟩ := hrel
    by_cases hlt : k < ps.length
    · have hltz : (k : Int) < (ps.length : Int) := by omega
      obtain ⟨b, o, rfl, hb, hat⟩ := p3.out k hlt
      obtain ⟨b', o', rfl, hb', hat'⟩ := p4.out k hlt
      have hat := hat.keep hbq
      have hat' := hat'.keep hbq
      generalize ps[k] = S at hat hat'
      obtain ⟨sa, sb, sc, sd⟩ := S
      obtain ⟨c0, c1, c2, c3⟩ := hat
      obtain ⟨d0, d1, d2, d3⟩ := hat'
      simp only at c0 c1 c2 c3 d0 d1 d2 d3
      have he1 : ∀ u, (Op.equalIn 10000 25 (.agg #[.int .u64 (sa : Int), .int .u64 (sb : Int), .int .u64 (sc : Int), .int .u64 (sd : Int)]) (.agg #[.int .u64 (sa : Int), .int .u64 (sb : Int), .int .u64 (sc : Int), .int .u64 (sd : Int)])).run Tryd.prog u = .ok true u := fun u => (equal4 9998 sa sb sc sd sa sb sc sd u).trans (by simp)
      go_wp2_with fail
      go_quiet (fail)
      go_wp2
      go_roundw
      case rel => exact ⟨k + 1, by omega, by go_num, ⟨hbq.os, hbq.tape, hbq.output, hbq.size, hbq.block⟩⟩
      case measure => simp [intOf]; omega
    · have hltz : ¬ (k : Int) < (ps.length : Int) := by omega
      go_wp2
      go_ret
      exact ⟨rfl, bl_step hbl4 hbq⟩

end Go.Proofs.YtpkndedppfdekaaDoor
