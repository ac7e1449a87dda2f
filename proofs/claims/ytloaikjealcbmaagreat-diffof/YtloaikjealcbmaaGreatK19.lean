/- DiffNothing, DiffTurned: the maths and the walks. What is asked of layer 4's reference, kept; right rules are told to be right. gram.sides, side, keyword. Slices copied: any rows; rows of three of which the middle one changes. -/
import Derived.Test.YtloaikjealcbmaaGreatK18
import Derived.Test.YtloaikjealcbmaaGreatK15
import Derived.Test.YtloaikjealcbmaaGreatK14
namespace Go.Proofs.YtloaikjealcbmaaGreat
open Go.RowKit Go.Maps Go.Sort

theorem names_tail (g : Gm) : ∃ l, g.names = [36] :: l ∧ l.length = g.all ∧ (g.allN.Nodup → l.Nodup) := by
 refine ⟨((g.rules.take g.rules.length).filter fun r => !r.skip).map Rl.name ++ g.nonts, rfl, ?_, fun h => ?_⟩
 · unfold Gm.all Gm.terms trmK
   rw [List.length_append, List.length_map]
 · refine h.sublist ?_
   unfold Gm.allN
   rw [List.take_length]
   exact List.Sublist.append (List.filter_sublist.map _) (List.Sublist.refl _)
theorem names_once {g : Gm} (h : g.allN.Nodup) {i j : Nat} (h1 : 1 ≤ i) (h2 : i < j) (h3 : j ≤ g.all) : g.name (i : Int) ≠ g.name (j : Int) := by
 obtain ⟨l, e, hl, hd⟩ := names_tail g
 have hn : ∀ k : Nat, 1 ≤ k → k ≤ g.all → ∃ hk : k - 1 < l.length, g.name (k : Int) = l[k - 1] := fun k k1 k2 => by
  refine ⟨by omega, ?_⟩
  unfold Gm.name
  rw [if_neg (by omega), e, Int.toNat_natCast, List.getD_eq_getElem?_getD]
  obtain ⟨m, rfl⟩ : ∃ m, k = m + 1 := ⟨k - 1, by omega⟩
  rw [List.getElem?_cons_succ, List.getElem?_eq_getElem (by omega)]
  rfl
 obtain ⟨a1, a2⟩ := hn i h1 (by omega)
 obtain ⟨b1, b2⟩ := hn j (by omega) h3
 rw [a2, b2]
 exact List.pairwise_iff_getElem.1 (hd h) (i - 1) (j - 1) a1 b1 (by omega)
theorem Fits12.bd {g : Gm} (h : Fits12 g) : Bd14 g where
 bnd := {
  rules := by have := h.rules; omega
  nonts := by have := h.nonts; omega
  levels := by have := h.levels; omega
  prods := by have := h.prods; omega
  re := fun r hr => by
   obtain ⟨j, hj, e⟩ := List.getElem_of_mem hr
   have := (h.rule j hj).1
   rw [e] at this
   omega
  right := fun p hp => by
   obtain ⟨j, hj, e⟩ := List.getElem_of_mem hp
   have := h.prod j hj
   rw [e] at this
   omega }
 nam := fun t ht => by
  unfold Gm.allN at ht
  rw [List.mem_append, List.mem_map] at ht
  rcases ht with ⟨r, hr, rfl⟩ | ht
  · obtain ⟨j, hj, rfl⟩ := List.getElem_of_mem hr
    have := (h.rule j hj).2
    omega
  · obtain ⟨j, hj, rfl⟩ := List.getElem_of_mem ht
    have := h.nont j hj
    omega
theorem ChgV.shape {w : World} {kv gv nv : Value} {c : ChgD} (h : ChgV w kv gv nv c) : ∃ ka kc ga gc na nc, kv = .slice ka c.prs.length kc ∧ gv = .slice ga c.gone.length gc ∧ nv = .slice na c.new.length nc := by
 obtain ⟨ka, kc, h1⟩ := h.prs.shape
 obtain ⟨ga, gc, h2, _⟩ := h.gone
 obtain ⟨na, nc, h3, _⟩ := h.new
 exact ⟨ka, kc, ga, gc, na, nc, h1, h2, h3⟩
end Go.Proofs.YtloaikjealcbmaaGreat
namespace Go.Proofs.YtloaikjealcbmaaGreat
open Go.RowKit

end Go.Proofs.YtloaikjealcbmaaGreat
namespace Go.Proofs.YtloaikjealcbmaaGreat
open Go.RowKit Go.Maps Go.Sort

abbrev sidesV : Value := .agg #[.string ⟨#[]⟩, .string ⟨#[108, 101, 102, 116]⟩, .string ⟨#[114, 105, 103, 104, 116]⟩, .string ⟨#[110, 111, 110, 101]⟩]
set_option maxRecDepth 20000 in
theorem sidesC (w : World) : Calls Tryz.prog 113 #[] w fun e w' => e = .returned sidesV ∧ Below w.heap.size w w' := by
 have hb := hid (al' w (.cells #[.string ⟨#[]⟩, .string ⟨#[108, 101, 102, 116]⟩, .string ⟨#[114, 105, 103, 104, 116]⟩, .string ⟨#[110, 111, 110, 101]⟩] 157))
 go_enter Tryz.func113, Tryz.ntmps113
 go_wp2
 refine bodyPost_ret (v := sidesV) (by simp [results, Tryz.results113, go_sem]) rfl ⟨rfl, ?_⟩
 exact hb.out
set_option maxRecDepth 20000 in
theorem ixS (w : World) : (Instr.index 157 sidesV (.int .i64 0)).run Tryz.prog w = .ok (.string ⟨#[]⟩) w ∧ (Instr.index 157 sidesV (.int .i64 1)).run Tryz.prog w = .ok (.string ⟨#[108, 101, 102, 116]⟩) w ∧ (Instr.index 157 sidesV (.int .i64 2)).run Tryz.prog w = .ok (.string ⟨#[114, 105, 103, 104, 116]⟩) w ∧ (Instr.index 157 sidesV (.int .i64 3)).run Tryz.prog w = .ok (.string ⟨#[110, 111, 110, 101]⟩) w := by
 refine ⟨?_, ?_, ?_, ?_⟩
 all_goals
  simp [Instr.index, run_underlying Tryz.underlying157, asIntOf, go_sem, part, isAgg, run_underlying Tryz.underlying9]
/-- a text that is one, or is none -/
theorem strT_is {t u : Txt} (h : t = u) : ((strT t).toList == u) = true := by rw [h, strT_toL, beq_self_eq_true]
theorem strT_isnt {t u : Txt} (h : ¬ t = u) : ((strT t).toList == u) = false := by rw [strT_toL, beq_eq_false_iff_ne]; exact h
theorem strT_is' {t u : Txt} (h : t = u) : (u == (strT t).toList) = true := by rw [h, strT_toL, beq_self_eq_true]
theorem strT_isnt' {t u : Txt} (h : ¬ t = u) : (u == (strT t).toList) = false := by rw [strT_toL, beq_eq_false_iff_ne]; exact fun e => h e.symm
theorem strT_emp {t : Txt} (h : t = []) : (strT t).toList.isEmpty = true := by rw [h, strT_toL]; rfl
theorem strT_nemp {t : Txt} (h : ¬ t = []) : (strT t).toList.isEmpty = false := by rw [strT_toL]; cases t with | nil => exact absurd rfl h | cons _ _ => rfl
set_option maxRecDepth 20000 in
set_option maxHeartbeats 4000000 in
theorem sideC (t : Txt) (w : World) : Calls Tryz.prog 79 #[.string (strT t)] w fun e w' => e = .returned (.int .i64 (sdN t : Int)) ∧ Below w.heap.size w w' := by
 have GC := hid (sidesC w)
 have hI := hid (fun x => ixS x)
 have h0 : Hid (t = [] → sdN t = 0) := hid (fun h => by rw [h]; rfl)
 have h1 : Hid (t = kLeft → sdN t = 1) := hid (fun h => by rw [h]; rfl)
 have h2 : Hid (t = kRight → sdN t = 2) := hid (fun h => by rw [h]; rfl)
 have h3 : Hid (t = kNone → sdN t = 3) := hid (fun h => by rw [h]; rfl)
 have h4 : Hid (¬ t = kLeft → ¬ t = kRight → ¬ t = kNone → sdN t = 0) := hid (fun a b c => by unfold sdN; rw [if_neg a, if_neg b, if_neg c])
 generalize sdN t = n at *
 go_enter Tryz.func79, Tryz.ntmps79
 go_wp2_with (go_at_call 113; refine GC.out.mono ?_; clear GC; rintro e w2 ⟨rfl, hc2⟩; have hc2 := hid hc2)
 go_loopw [6] (fun x wr => ∃ k : Nat, k ≤ 4 ∧ x = .int .i64 (k : Int) ∧ Hid ((1 < k → ¬ t = kLeft) ∧ (2 < k → ¬ t = kRight) ∧ (3 < k → ¬ t = kNone)) ∧ Hid (Below w.heap.size w wr)) (fun x _ => 4 - (intOf x).toNat)
 case atStart => exact ⟨0, by omega, rfl, hid ⟨fun h => absurd h (by omega), fun h => absurd h (by omega), fun h => absurd h (by omega)⟩, hc2⟩
 case round =>
  obtain ⟨k, hk, rfl, hn, hw⟩ := hrel
  by_cases hlt : k < 4
  · obtain ⟨i0, i1, i2, i3⟩ := hI.out wr
    have hk4 : k = 0 ∨ k = 1 ∨ k = 2 ∨ k = 3 := by omega
    rcases hk4 with rfl | rfl | rfl | rfl
    · clear i1 i2 i3
      by_cases ht : t = []
      · have hb := strT_emp ht
        have := h0.out ht
        subst this
        generalize strT t = S at *
        go_wp2
        go_ret
        exact ⟨rfl, hw.out⟩
      · have hb := strT_nemp ht
        have hs2 : Hid (Below w.heap.size w wr) := hw
        generalize strT t = S at *
        go_wp2
        go_roundw
        case rel => exact ⟨1, by omega, by go_num, hid ⟨fun h => absurd h (by omega), fun h => absurd h (by omega), fun h => absurd h (by omega)⟩, hs2⟩
        case measure => simp [intOf]
    · clear i0 i2 i3
      by_cases ht : t = kLeft
      · have hb : (([108, 101, 102, 116] : Txt) == (strT t).toList) = true := strT_is' ht
        have := h1.out ht
        subst this
        generalize strT t = S at *
        go_wp2
        go_ret
        exact ⟨rfl, hw.out⟩
      · have hb : (([108, 101, 102, 116] : Txt) == (strT t).toList) = false := strT_isnt' ht
        have hs2 : Hid (Below w.heap.size w wr) := hw
        generalize strT t = S at *
        go_wp2
        go_roundw
        case rel => exact ⟨2, by omega, by go_num, hid ⟨fun _ => ht, fun h => absurd h (by omega), fun h => absurd h (by omega)⟩, hs2⟩
        case measure => simp [intOf]
    · clear i0 i1 i3
      by_cases ht : t = kRight
      · have hb : (([114, 105, 103, 104, 116] : Txt) == (strT t).toList) = true := strT_is' ht
        have := h2.out ht
        subst this
        generalize strT t = S at *
        go_wp2
        go_ret
        exact ⟨rfl, hw.out⟩
      · have hb : (([114, 105, 103, 104, 116] : Txt) == (strT t).toList) = false := strT_isnt' ht
        have hs2 : Hid (Below w.heap.size w wr) := hw
        generalize strT t = S at *
        go_wp2
        go_roundw
        case rel => exact ⟨3, by omega, by go_num, hid ⟨fun _ => hn.out.1 (by omega), fun _ => ht, fun h => absurd h (by omega)⟩, hs2⟩
        case measure => simp [intOf]
    · clear i0 i1 i2
      by_cases ht : t = kNone
      · have hb : (([110, 111, 110, 101] : Txt) == (strT t).toList) = true := strT_is' ht
        have := h3.out ht
        subst this
        generalize strT t = S at *
        go_wp2
        go_ret
        exact ⟨rfl, hw.out⟩
      · have hb : (([110, 111, 110, 101] : Txt) == (strT t).toList) = false := strT_isnt' ht
        have hs2 : Hid (Below w.heap.size w wr) := hw
        generalize strT t = S at *
        go_wp2
        go_roundw
        case rel => exact ⟨4, by omega, by go_num, hid ⟨fun _ => hn.out.1 (by omega), fun _ => hn.out.2.1 (by omega), fun _ => ht⟩, hs2⟩
        case measure => simp [intOf]
  · have : k = 4 := by omega
    subst this
    have := h4.out (hn.out.1 (by omega)) (hn.out.2.1 (by omega)) (hn.out.2.2 (by omega))
    subst this
    go_wp2
    go_ret
    exact ⟨rfl, hw.out⟩

set_option maxRecDepth 20000 in
set_option maxHeartbeats 4000000 in
theorem keywordC (t : Txt) (w : World) : Calls Tryz.prog 134 #[.string (strT t)] w fun e w' => e = .returned (.bool (kwB t)) ∧ Below w.heap.size w w' := by
 have GS := hid (fun u => sideC t u)
 obtain ⟨R, hR⟩ : ∃ R, Hid (kwB t = R) := ⟨_, hid rfl⟩
 rw [hR.out]
 unfold kwB at hR
 generalize sdN t = n at *
 by_cases h1 : t = kTok
 · have hb1 : ((strT t).toList == ([116, 111, 107, 101, 110] : Txt)) = true := strT_is h1
   rw [decide_eq_true h1, Bool.true_or, Bool.true_or, Bool.true_or] at hR
   obtain rfl := hR.out
   generalize strT t = S at *
   clear h1 hR
   go_enter Tryz.func134, Tryz.ntmps134
   go_wp2_with fail
   go_ret
   exact ⟨rfl, Below.refl _ _⟩
 have hb1 : ((strT t).toList == ([116, 111, 107, 101, 110] : Txt)) = false := strT_isnt h1
 rw [decide_eq_false h1, Bool.false_or] at hR
 by_cases h2 : t = kSkip
 · have hb2 : ((strT t).toList == ([115, 107, 105, 112] : Txt)) = true := strT_is h2
   rw [decide_eq_true h2, Bool.true_or, Bool.true_or] at hR
   obtain rfl := hR.out
   generalize strT t = S at *
   clear h1 h2 hR
   go_enter Tryz.func134, Tryz.ntmps134
   go_wp2_with fail
   go_ret
   exact ⟨rfl, Below.refl _ _⟩
 have hb2 : ((strT t).toList == ([115, 107, 105, 112] : Txt)) = false := strT_isnt h2
 rw [decide_eq_false h2, Bool.false_or] at hR
 by_cases h3 : t = kStart
 · have hb3 : ((strT t).toList == ([115, 116, 97, 114, 116] : Txt)) = true := strT_is h3
   rw [decide_eq_true h3, Bool.true_or] at hR
   obtain rfl := hR.out
   generalize strT t = S at *
   clear h1 h2 h3 hR
   go_enter Tryz.func134, Tryz.ntmps134
   go_wp2_with fail
   go_ret
   exact ⟨rfl, Below.refl _ _⟩
 have hb3 : ((strT t).toList == ([115, 116, 97, 114, 116] : Txt)) = false := strT_isnt h3
 rw [decide_eq_false h3, Bool.false_or] at hR
 clear h1 h2 h3
 generalize strT t = S at *
 rcases Nat.eq_zero_or_pos n with h4 | h4
 · subst h4
   obtain rfl : false = R := hR.out
   clear hR
   go_enter Tryz.func134, Tryz.ntmps134
   go_wp2_with (go_at_call 79; refine (GS.out _).mono ?_; clear GS; rintro e w2 ⟨rfl, hc2⟩; have hc2 := hid hc2)
   go_ret
   exact ⟨rfl, hc2.out⟩
 · rw [decide_eq_true h4] at hR
   obtain rfl := hR.out
   clear hR
   have h4z : (0 : Int) < (n : Int) := by omega
   go_enter Tryz.func134, Tryz.ntmps134
   go_wp2_with (go_at_call 79; refine (GS.out _).mono ?_; clear GS; rintro e w2 ⟨rfl, hc2⟩; have hc2 := hid hc2)
   go_ret
   exact ⟨by simp, hc2.out⟩

end Go.Proofs.YtloaikjealcbmaaGreat
namespace Go.Proofs.YtloaikjealcbmaaGreat
open Go.RowKit Go.Maps Go.Sort

/-- a cell of an own row changed -/
theorem own_put {w : World} {B n size g cap i : Nat} {e : TypeId} {xs : List Value} (h : w.ownsRow B e size (.slice (some ⟨g, 0, none⟩) n cap) n xs) (x : Value) : (w.setCell ⟨g, i, none⟩ x).ownsRow B e size (.slice (some ⟨g, 0, none⟩) n cap) n (xs.set i x) := by
 refine ⟨by rw [List.length_set]; exact h.1, ?_⟩
 rcases h.2 with ⟨h1, _⟩ | ⟨g', cap', cur, h1, h2, h3, h4, h5, h6, h7⟩
 · cases h1
 · have h8 := h1
   injection h1 with e1 _ e3
   injection e1 with e1
   injection e1 with e1 _ _
   subst e1 e3
   refine .inr ⟨g, cap, cur.setIfInBounds i x, rfl, h2, heap_setCell h3, h4, h5, by rw [Array.size_setIfInBounds]; exact h6, ?_⟩
   rw [Array.toList_setIfInBounds, List.take_set, h7]
/-- no cell of a slice lies in the blocks F -/
def OffP (F : Nat → Prop) (v : Value) : Prop := ∀ a n c, v = .slice (some a) n c → 0 < n → ¬ F a.block
theorem Cels.keptP {F : Nat → Prop} {w w' : World} {v : Value} {l : List Cel} (h : Cels w v l) (hk : Kept F w w') (ho : OffP F v) : Cels w' v l := by
 obtain ⟨a, cap, rfl, hc, hn, hf, hat⟩ := h
 refine ⟨a, cap, rfl, hc, hn, hf, fun j hj => ?_⟩
 obtain ⟨b, o, rfl, hlt, h5⟩ := hat j hj
 have hn : ¬ F b := ho _ _ _ rfl (by omega)
 obtain ⟨x0, x1, x2, x3, x4⟩ := h5
 exact ⟨b, o, rfl, Nat.lt_of_lt_of_le hlt hk.size, hk.cell x0 hlt hn, hk.cell x1 hlt hn, hk.cell x2 hlt hn, hk.cell x3 hlt hn, hk.cell x4 hlt hn⟩
theorem own_off {F : Nat → Prop} {w : World} {B n size : Nat} {e : TypeId} {v : Value} {xs : List Value} (h : w.ownsRow B e size v n xs) (hF : ∀ b, B ≤ b → ¬ F b) : OffP F v := fun a m c e hn => by
 rcases h.2 with ⟨rfl, _⟩ | ⟨g', cap', cur, rfl, h2, h3, _⟩
 · cases e
 · injection e with e1 _ _
   injection e1 with e1
   subst e1
   exact hF _ h2

end Go.Proofs.YtloaikjealcbmaaGreat
