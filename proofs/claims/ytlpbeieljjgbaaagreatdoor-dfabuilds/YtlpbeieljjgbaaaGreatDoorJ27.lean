/- The maths of layer 8: a row by parts of bytes is the row byte by byte; when the building ends. The reference of layer 8: accept, wide. The reference of layer 8: spots one behind the other in memory; first. -/
import Derived.Test.YtlpbeieljjgbaaaGreatDoorJ22
import Derived.Test.YtlpbeieljjgbaaaGreatDoorJ21
namespace Go.Proofs.YtlpbeieljjgbaaaGreatDoor

/-- one more state, if it is one, and wasn't met -/
def metS (L : List St) (to : St) : List St := if to = [] then L else if to ∈ L then L else L ++ [to]
theorem metS_nil (L : List St) : metS L [] = L := by unfold metS; rw [if_pos rfl]
theorem metS_old {L : List St} {to : St} (h : to ∈ L) : metS L to = L := by
  unfold metS
  split
  · rfl
  · first | rfl | rw [if_pos h]
theorem metS_new {L : List St} {to : St} (h0 : to ≠ []) (h : ¬ to ∈ L) : metS L to = L ++ [to] := by
  unfold metS
  rw [if_neg h0, if_neg h]
theorem metS_more (L : List St) (to : St) : ∃ U, metS L to = L ++ U := by
  unfold metS
  split
  · exact ⟨[], by simp⟩
  · split
    · exact ⟨[], by simp⟩
    · exact ⟨_, rfl⟩
theorem rowK_met1 (all : List Sp) (st : St) (S : List St) (b : Nat) : (rowK all st S (b + 1)).1 = metS (rowK all st S b).1 (byS all st b) := by
  rcases rowK_cases all st S b with ⟨h, e⟩ | ⟨h, hm, e⟩ | ⟨h, hm, e⟩
  · rw [e, h, metS_nil]
  · rw [e, metS_old hm]
  · rw [e, metS_new h hm]
/-- the states when k parts are gone through -/
def prtK (all : List Sp) (st : St) (S : List St) (reps : List Nat) : Nat → List St
  | 0 => S
  | k + 1 => metS (prtK all st S reps k) (byS all st (reps.getD k 0))
theorem repN_more (l : List W4) (c : Nat) : ∀ d, ∃ U, repN l (c + d) = repN l c ++ U
  | 0 => ⟨[], by simp⟩
  | d + 1 => by
    obtain ⟨U, hU⟩ := repN_more l c d
    rw [← Nat.add_assoc]
    cases hk : (repN l (c + d)).any (fun r => al l r (c + d)) with
    | true => exact ⟨U, by rw [repN_old hk, hU]⟩
    | false => exact ⟨U ++ [c + d], by rw [repN_new hk, hU, List.append_assoc]⟩
theorem rowOK_mem {T : List St} {to : St} {n : Int} (h : RowOK T to n) : to = [] ∨ to ∈ T := by
  rcases h with ⟨h, _⟩ | ⟨_, m, _, hm⟩
  · exact Or.inl h
  · exact Or.inr (List.mem_of_getElem? hm)
theorem metS_idle {T : List St} {to : St} (h : to = [] ∨ to ∈ T) : metS T to = T := by
  rcases h with rfl | h
  · exact metS_nil T
  · exact metS_old h
theorem prt_row {ts : List Rx} {all : List Sp} (R : RuS ts all) {st : St} (hs : ∀ x ∈ st, FrmS ts x) {S : List St} (hS : S.Nodup) : ∀ c, c ≤ 256 → prtK all st S (repN (setsP all all.length) 256) (repN (setsP all all.length) c).length = (rowK all st S c).1
  | 0, _ => by rw [repN_zero]; rfl
  | c + 1, hc => by
    have ih := prt_row R hs hS c (by omega)
    rw [rowK_met1]
    cases hk : (repN (setsP all all.length) c).any (fun r => al (setsP all all.length) r c) with
    | true =>
      rw [repN_old hk, ih]
      obtain ⟨r, hr, hal⟩ := List.any_eq_true.1 hk
      have hlt := repN_lt _ c r hr
      have hrow := (rowK_is all st S hS c).row r hlt
      rw [byS_alike R hs hal] at hrow
      exact (metS_idle (rowOK_mem hrow)).symm
    | false =>
      obtain ⟨U, hU⟩ := repN_more (setsP all all.length) (c + 1) (256 - (c + 1))
      rw [show c + 1 + (256 - (c + 1)) = 256 by omega] at hU
      have hat : (repN (setsP all all.length) 256).getD (repN (setsP all all.length) c).length 0 = c := by
        rw [hU, repN_new hk, List.append_assoc, List.getD_eq_getElem?_getD, List.getElem?_append_right (Nat.le_refl _)]
        simp
      rw [repN_new hk, List.length_append, List.length_singleton, prtK, ih, hat]
theorem prt_end {ts : List Rx} {all : List Sp} (R : RuS ts all) {st : St} (hs : ∀ x ∈ st, FrmS ts x) {S : List St} (hS : S.Nodup) : prtK all st S (repN (setsP all all.length) 256) (repN (setsP all all.length) 256).length = (rowK all st S 256).1 := prt_row R hs hS 256 (Nat.le_refl _)
theorem rowOK_uniq {T : List St} (hT : T.Nodup) {to : St} {n m : Int} (h : RowOK T to n) (h' : RowOK T to m) : n = m := by
  rcases h with ⟨h, e⟩ | ⟨h, a, e, ha⟩ <;> rcases h' with ⟨h', e'⟩ | ⟨h', a', e', ha'⟩
  · omega
  · exact absurd h h'
  · exact absurd h' h
  · have hlt : a < T.length := by
      rcases Nat.lt_or_ge a T.length with h | h
      · exact h
      · rw [List.getElem?_eq_none h] at ha; cases ha
    have := (List.getElem?_inj hlt hT).1 (ha.trans ha'.symm)
    omega
/-- what a row holds when k parts are gone through -/
def PrtR (all : List Sp) (st : St) (S : List St) (l : List W4) (k : Nat) (rw : List Int) : Prop := rw.length = 256 ∧ ∀ j, j < k → ∀ b, b < 256 → al l ((repN l 256).getD j 0) b = true → RowOK (prtK all st S (repN l 256) k) (byS all st b) (rw.getD b 0)
def putR (P : W4) (nx : Int) (rw : List Int) : List Int := (List.range 256).map fun b => if hasB P b then nx else rw.getD b 0
theorem putR_len (P : W4) (nx : Int) (rw : List Int) : (putR P nx rw).length = 256 := by simp [putR]
theorem putR_at (P : W4) (nx : Int) (rw : List Int) {b : Nat} (h : b < 256) : (putR P nx rw).getD b 0 = if hasB P b then nx else rw.getD b 0 := by
  unfold putR
  rw [List.getD_eq_getElem?_getD, List.getElem?_map, List.getElem?_range h]
  rfl
theorem PrtR.step {ts : List Rx} {all : List Sp} (R : RuS ts all) {st : St} (hs : ∀ x ∈ st, FrmS ts x) {S : List St} {k : Nat} {rw : List Int} (h : PrtR all st S (setsP all all.length) k rw) {nx : Int}
    (hn : RowOK (prtK all st S (repN (setsP all all.length) 256) (k + 1)) (byS all st ((repN (setsP all all.length) 256).getD k 0)) nx) :
    PrtR all st S (setsP all all.length) (k + 1) (putR (clsB (setsP all all.length) ((repN (setsP all all.length) 256).getD k 0)) nx rw) := by
  refine ⟨putR_len _ _ _, fun j hj b hb hal => ?_⟩
  rw [putR_at _ _ _ hb]
  have hcl : hasB (clsB (setsP all all.length) ((repN (setsP all all.length) 256).getD k 0)) b = al (setsP all all.length) ((repN (setsP all all.length) 256).getD k 0) b := by
    unfold clsB
    rw [mkB_has _ b hb]
  rw [hcl]
  by_cases hk : al (setsP all all.length) ((repN (setsP all all.length) 256).getD k 0) b = true
  · rw [if_pos hk, ← byS_alike R hs hk]
    exact hn
  · rw [if_neg hk]
    have hjk : j < k := by
      rcases Nat.lt_or_ge j k with h | h
      · exact h
      · have : j = k := by omega
        subst this
        exact absurd hal hk
    have := h.2 j hjk b hb hal
    rw [prtK]
    obtain ⟨U, hU⟩ := metS_more (prtK all st S (repN (setsP all all.length) 256) k) (byS all st ((repN (setsP all all.length) 256).getD k 0))
    rw [hU]
    exact this.more U
theorem list_ext {l m : List Int} {n : Nat} (hl : l.length = n) (hm : m.length = n) (h : ∀ i, i < n → l.getD i 0 = m.getD i 0) : l = m := by
  refine List.ext_getElem (by omega) fun i h1 h2 => ?_
  have := h i (by omega)
  rw [List.getD_eq_getElem?_getD, List.getD_eq_getElem?_getD, List.getElem?_eq_getElem h1, List.getElem?_eq_getElem h2] at this
  exact this
theorem PrtR.fin {ts : List Rx} {all : List Sp} (R : RuS ts all) {st : St} (hs : ∀ x ∈ st, FrmS ts x) {S : List St} (hS : S.Nodup) {rw : List Int} (h : PrtR all st S (setsP all all.length) (repN (setsP all all.length) 256).length rw) : rw = (rowK all st S 256).2 := by
  have H := rowK_is all st S hS 256
  refine list_ext h.1 H.len fun b hb => ?_
  obtain ⟨r, hr, hal⟩ := List.any_eq_true.1 (repN_all (setsP all all.length) 256 b hb)
  obtain ⟨j, hj, rfl⟩ := List.mem_iff_getElem.1 hr
  have e : (repN (setsP all all.length) 256).getD j 0 = (repN (setsP all all.length) 256)[j] := by
    rw [List.getD_eq_getElem?_getD, List.getElem?_eq_getElem hj]
    rfl
  have h1 := h.2 j hj b hb (by rw [e]; exact hal)
  rw [prt_end R hs hS] at h1
  exact rowOK_uniq H.nd h1 (H.row b hb)
theorem idx_map {S : List St} {f : St → Txt} {to : St} (h : ∀ x ∈ S, f x = f to → x = to) : (S.map f).idxOf (f to) = S.idxOf to := by
  induction S with
  | nil => rfl
  | cons a r ih =>
    rw [List.map_cons, List.idxOf_cons, List.idxOf_cons]
    by_cases e : a = to
    · subst e
      simp
    · have e' : f a ≠ f to := fun e2 => e (h a (by simp) e2)
      rw [beq_eq_false_iff_ne.2 e, beq_eq_false_iff_ne.2 e']
      simp only [cond_false]
      rw [ih fun x hx => h x (by simp [hx])]
theorem mem_map_inj {S : List St} {f : St → Txt} {to : St} (h : ∀ x ∈ S, f x = f to → x = to) : f to ∈ S.map f ↔ to ∈ S := by
  rw [List.mem_map]
  exact ⟨fun ⟨x, hx, e⟩ => by rw [← h x hx e]; exact hx, fun hx => ⟨to, hx, rfl⟩⟩
theorem rowOK_met (L : List St) {to : St} (h0 : to ≠ []) : RowOK (metS L to) to ((L.idxOf to : Nat) : Int) := by
  refine Or.inr ⟨h0, L.idxOf to, rfl, ?_⟩
  by_cases h : to ∈ L
  · rw [metS_old h]
    exact idx_at h
  · rw [metS_new h0 h, List.idxOf_eq_length h]
    simp
/-- the states of the parts' way are states of the rules -/
theorem prt_frm {ts : List Rx} {all : List Sp} (R : RuS ts all) {st : St} (hs : ∀ x ∈ st, FrmS ts x) {S : List St} (hS : ∀ x ∈ S, (∀ y ∈ x, FrmS ts y) ∧ Up x) (reps : List Nat) : ∀ k, ∀ x ∈ prtK all st S reps k, (∀ y ∈ x, FrmS ts y) ∧ Up x
  | 0 => hS
  | k + 1 => by
    intro x hx
    rw [prtK] at hx
    unfold metS at hx
    split at hx
    · exact prt_frm R hs hS reps k x hx
    · split at hx
      · exact prt_frm R hs hS reps k x hx
      · rcases List.mem_append.1 hx with h | h
        · exact prt_frm R hs hS reps k x h
        · have : x = byS all st (reps.getD k 0) := by simpa using h
          subst this
          exact ⟨by_frm R hs _, byS_up _ _ _⟩
/-- the building ends with n states -/
structure BldTo (all : List Sp) (n : Nat) : Prop where
  on : ∀ j, j < n → j < (stsK all j).length
  few : ∀ j, j ≤ n → (stsK all j).length ≤ 240
  fin : (stsK all n).length = n
/-- the building finds too many states -/
def BldFull (all : List Sp) : Prop := ∃ n, (∀ j, j ≤ n → j < (stsK all j).length ∧ (stsK all j).length ≤ 240) ∧ 240 < (stsK all (n + 1)).length
theorem BldTo.uniq {all : List Sp} {n m : Nat} (h : BldTo all n) (h' : BldTo all m) : n = m := by
  rcases Nat.lt_trichotomy n m with hl | hl | hl
  · have := h'.on n hl
    have := h.fin
    omega
  · exact hl
  · have := h.on m hl
    have := h'.fin
    omega
theorem BldTo.not_full {all : List Sp} {n : Nat} (h : BldTo all n) : ¬ BldFull all := by
  rintro ⟨m, h1, h2⟩
  rcases Nat.lt_or_ge m n with hl | hl
  · have := h.few (m + 1) (by omega)
    omega
  · have := h.fin
    have := (h1 n hl).1
    omega
theorem BldTo.le {all : List Sp} {n : Nat} (h : BldTo all n) : n ≤ 240 := by
  have := h.few n (Nat.le_refl _)
  rw [h.fin] at this
  exact this
theorem BldTo.pos {all : List Sp} {n : Nat} (h : BldTo all n) : 0 < n := by
  rcases Nat.eq_zero_or_pos n with h0 | h0
  · subst h0
    have := h.fin
    simp [stsK] at this
  · exact h0

end Go.Proofs.YtlpbeieljjgbaaaGreatDoor
namespace Go.Proofs.YtlpbeieljjgbaaaGreatDoor
open Go.RowKit

theorem accS_drop {l : List Int} {k : Nat} (h : k < l.length) : accS (l.drop k) = if l[k] % 1000 = 999 then l[k] / 1000 else accS (l.drop (k + 1)) := by
  rw [List.drop_eq_getElem_cons h, accS]
set_option maxRecDepth 20000 in
set_option maxHeartbeats 1000000 in
theorem acceptC (v : Value) (l : List Int) (w : World) (hl : l.length ≤ 1000000) (hp : ∀ x ∈ l, 0 ≤ x ∧ x < 1000000) (hA : Nums w v l) :
    Calls Tryz.prog 34 #[v] w fun e w' => e = .returned (.int .i64 (accS l)) ∧ w' = w := by
  obtain ⟨aa, ca, rfl, _, _, hA⟩ := hA
  obtain ⟨r, hr⟩ : ∃ r, Hid (accS l = r) := ⟨_, hid rfl⟩
  rw [show accS l = r from hr.out]
  have hp' := hid hp
  have hA' := hid hA
  clear hp hA
  go_enter Tryz.func34, Tryz.ntmps34
  go_wp2
  go_loop [3] (fun i => ∃ k : Nat, k ≤ l.length ∧ i = .int .i64 k ∧ Hid (accS (l.drop k) = r)) (fun i => l.length - (intOf i).toNat)
  case atStart => exact ⟨0, Nat.zero_le _, rfl, hr⟩
  case round =>
    obtain ⟨k, hk, rfl, hn⟩ := hrel
    by_cases hlt : k < l.length
    · have hltz : (k : Int) < (l.length : Int) := by omega
      obtain ⟨b1, o1, rfl, hb1, hc1⟩ := hA'.out k hlt
      have hx := hp'.out l[k] (List.getElem_mem hlt)
      have hstep := hn.out
      rw [accS_drop hlt] at hstep
      generalize l[k] = x at hc1 hx hstep
      have hx0 := hx.1
      have hx1 := hx.2
      have hm : x.tmod 1000 = x % 1000 := Int.tmod_eq_emod_of_nonneg hx0
      have hd : x.tdiv 1000 = x / 1000 := Int.tdiv_eq_ediv_of_nonneg hx0
      clear hx
      by_cases h : x % 1000 = 999
      · rw [if_pos h] at hstep
        have hres := hid hstep
        have hb : (x.tmod 1000 == 999) = true := by rw [hm]; exact beq_iff_eq.2 h
        clear hstep hn h
        go_wp2
        go_ret
        exact ⟨by rw [← hres.out, ← hd]; rfl, rfl⟩
      · rw [if_neg h] at hstep
        have hres := hid hstep
        have hb : (x.tmod 1000 == 999) = false := by rw [hm]; exact beq_eq_false_iff_ne.2 h
        clear hstep hn h
        go_wp2
        go_round
        case rel => exact ⟨k + 1, by omega, by go_num, hres⟩
        case measure => simp [intOf]; omega
    · have hltz : ¬ (k : Int) < (l.length : Int) := by omega
      have hres : r = -1 := by
        rw [← hn.out, List.drop_eq_nil_of_le (by omega)]
        rfl
      subst hres
      go_wp2
      go_ret
      exact ⟨rfl, rfl⟩

theorem wideL_take {r k : Nat} {l : List Int} (h : k < l.length) : wideL r (l.take (k + 1)) = wideL r (l.take k) ++ [(r : Int) * 1000 + l[k]] := by
  unfold wideL
  rw [List.take_succ_eq_append_getElem h, List.map_append]
  rfl
theorem wideL_len (r : Nat) (l : List Int) : (wideL r l).length = l.length := by simp [wideL]
set_option maxRecDepth 20000 in
set_option maxHeartbeats 1000000 in
theorem wideC (r : Nat) (v : Value) (l : List Int) (w : World) (hr : r ≤ 100) (hl : l.length ≤ 100000) (hp : ∀ x ∈ l, 0 ≤ x ∧ x < 1000000) (hA : Nums w v l) :
    Calls Tryz.prog 55 #[.int .i64 (r : Int), v] w fun e w' => ∃ v', e = .returned v' ∧ Own w' w.heap.size v' (wideL r l) ∧ Below w.heap.size w w' := by
  obtain ⟨aa, ca, rfl, _, _, hA⟩ := hA
  have hp' := hid hp
  have hA' := hid hA
  clear hp hA
  go_enter Tryz.func55, Tryz.ntmps55
  go_wp2
  go_loopw [5, 6] (fun v i wr => ∃ k : Nat, k ≤ l.length ∧ i = .int .i64 k ∧ Hid (Own wr w.heap.size v (wideL r (l.take k))) ∧ Below w.heap.size w wr) (fun _ i _ => l.length - (intOf i).toNat)
  case atStart => exact ⟨0, Nat.zero_le _, rfl, hid (World.ownsRow_nil _ _ _ _), Below.refl _ w⟩
  case round =>
    obtain ⟨k, hk, rfl, hO, hbl⟩ := hrel
    by_cases hlt : k < l.length
    · have hltz : (k : Int) < (l.length : Int) := by omega
      obtain ⟨b1, o1, rfl, hb1, hc1⟩ := hA'.out k hlt
      have hd1 := (hbl.cell hb1).trans hc1
      clear hc1
      have hsz := hbl.size
      have hx := hp'.out l[k] (List.getElem_mem hlt)
      have hstep := hid (wideL_take (r := r) hlt)
      have hlen : (wideL r (l.take k)).length ≤ k := by rw [wideL_len, List.length_take]; omega
      have hlen := hid hlen
      generalize l[k] = x at hd1 hx hstep
      have hx0 := hx.1
      have hx1 := hx.2
      clear hx
      have hO2 := hid (World.ownsRow.alloc hO.out (.cells #[.int .i64 ((r : Int) * 1000 + x)] 3))
      go_wp2_with (first
        | (at_builtin; refine wp_app _ rfl _ _ rfl w.heap.size _ [(r : Int) * 1000 + x] _ _ rfl rfl hO2.out (Nums.lit1 wr _) (by have := hlen.out; simp only [List.length_singleton]; omega) (by simp; omega) ?_; intro v' w2 hO3 hb2))
      go_wp2
      go_roundw
      case rel => exact ⟨k + 1, by omega, by go_num, by rw [hstep.out]; exact hid hO3, (hbl.alloc hsz _).trans hb2⟩
      case measure => simp [intOf]; omega
    · have hltz : ¬ (k : Int) < (l.length : Int) := by omega
      have hO1 : Hid (Own wr w.heap.size u5 (wideL r l)) := by
        have := hO.out
        rw [List.take_of_length_le (by omega)] at this
        exact hid this
      go_wp2
      go_ret
      exact ⟨_, rfl, hO1.out, hbl⟩

end Go.Proofs.YtlpbeieljjgbaaaGreatDoor
namespace Go.Proofs.YtlpbeieljjgbaaaGreatDoor
open Go.RowKit

/-- spots lie at a place -/
def AtS (w : World) (b o : Nat) (p : Sp) : Prop := ∃ sv fv lv gv, w.cell? ⟨b, o, none⟩ = some sv ∧ w.cell? ⟨b, o + 1, none⟩ = some (.bool p.null) ∧ w.cell? ⟨b, o + 2, none⟩ = some fv ∧ w.cell? ⟨b, o + 3, none⟩ = some lv ∧ w.cell? ⟨b, o + 4, none⟩ = some gv ∧ SpV w sv fv lv gv p
theorem AtS.keep {w w' : World} {b o : Nat} {p : Sp} (h : AtS w b o p) (hb : Below w.heap.size w w') : AtS w' b o p := by
  obtain ⟨sv, fv, lv, gv, h0, h1, h2, h3, h4, h5⟩ := h
  exact ⟨sv, fv, lv, gv, keep_cell hb h0, keep_cell hb h1, keep_cell hb h2, keep_cell hb h3, keep_cell hb h4, h5.keep hb⟩
/-- a slice of spots -/
def Spss (w : World) (v : Value) (l : List Sp) : Prop := ∃ a cap, v = .slice a l.length cap ∧ l.length ≤ cap ∧ (a = none → cap = 0) ∧ ∀ j (h : j < l.length), ∃ b o, a = some ⟨b, o, none⟩ ∧ b < w.heap.size ∧ AtS w b (o + j * 5) l[j]
theorem Spss.keep {w w' : World} {v : Value} {l : List Sp} (h : Spss w v l) (hb : Below w.heap.size w w') : Spss w' v l := by
  obtain ⟨a, cap, hv, hc, hn, hat⟩ := h
  refine ⟨a, cap, hv, hc, hn, fun j hj => ?_⟩
  obtain ⟨b, o, ha, hlt, h1⟩ := hat j hj
  exact ⟨b, o, ha, Nat.lt_of_lt_of_le hlt hb.size, h1.keep hb⟩
/-- spots of a size that the walks can bear -/
structure SmlS (p : Sp) : Prop where
  sets : p.sets.length ≤ 60
  first : p.first.length ≤ 60
  firstIn : ∀ x ∈ p.first, 0 ≤ x ∧ x < 60
  last : p.last.length ≤ 60
  flen : p.follow.length = p.sets.length
  follow : ∀ l ∈ p.follow, l.length ≤ 60 ∧ ∀ x ∈ l, 0 ≤ x ∧ x < 60
theorem getD_at {all : List Sp} {k : Nat} (h : k < all.length) : all.getD k noSp = all[k] := by
  rw [List.getD_eq_getElem?_getD, List.getElem?_eq_getElem h]
  rfl
theorem oneS_len {r : Nat} {p : Sp} (h : SmlS p) : (oneS r p).length ≤ 61 := by
  have := h.first
  unfold oneS
  rw [List.length_append, wideL_len]
  split <;> simp <;> omega
theorem firstS_len {all : List Sp} (h : ∀ p ∈ all, SmlS p) : ∀ m, m ≤ all.length → (firstS all m).length ≤ m * 61
  | 0, _ => by simp [firstS]
  | m + 1, hm => by
    have ih := firstS_len h m (by omega)
    have h1 := oneS_len (r := m) (h all[m] (List.getElem_mem (by omega)))
    rw [firstS, List.length_append, getD_at (by omega)]
    omega
set_option maxRecDepth 20000 in
set_option maxHeartbeats 2000000 in
theorem firstC (v : Value) (all : List Sp) (w : World) (hl : all.length ≤ 16) (hp : ∀ p ∈ all, SmlS p) (hA : Spss w v all) :
    Calls Tryz.prog 31 #[v] w fun e w' => ∃ v', e = .returned v' ∧ Own w' w.heap.size v' (firstS all all.length) ∧ Below w.heap.size w w' := by
  obtain ⟨aa, ca, rfl, _, _, hA⟩ := hA
  have hp' := hid hp
  have hA' := hid hA
  have hL := hid (firstS_len hp)
  clear hp hA
  go_enter Tryz.func31, Tryz.ntmps31
  go_wp2
  go_loopw [3, 4] (fun v i wr => ∃ k : Nat, k ≤ all.length ∧ i = .int .i64 k ∧ Hid (Own wr w.heap.size v (firstS all k)) ∧ Below w.heap.size w wr) (fun _ i _ => all.length - (intOf i).toNat)
  case atStart => exact ⟨0, Nat.zero_le _, rfl, hid (World.ownsRow_nil _ _ _ _), Below.refl _ w⟩
  case round =>
    obtain ⟨k, hk, rfl, hO, hbl⟩ := hrel
    by_cases hlt : k < all.length
    · have hltz : (k : Int) < (all.length : Int) := by omega
      obtain ⟨b1, o1, rfl, hb1, hat⟩ := hA'.out k hlt
      obtain ⟨sv, fv, lv, gv, h0, h1, h2, h3, h4, h5⟩ := hat
      have hsz := hbl.size
      have hS := hp'.out all[k] (List.getElem_mem hlt)
      have hd1 := (hbl.cell hb1).trans h1
      have hd2 := (hbl.cell hb1).trans h2
      clear h0 h1 h2 h3 h4
      have hlen := hid (hL.out k (by omega))
      have hlen2 := hid (hL.out (k + 1) (by omega))
      have hstep : Hid (firstS all (k + 1) = firstS all k ++ (wideL k all[k].first ++ (if all[k].null then [(k : Int) * 1000 + 999] else []))) := by
        refine hid ?_
        rw [firstS, getD_at hlt, oneS]
      have hN := h5.first.keep hbl
      have hfl := hS.first
      have G := hid (wideC k fv all[k].first wr (by omega) (by omega) (fun x hx => by have := hS.firstIn x hx; omega) hN)
      have hwl : Hid ((wideL k all[k].first).length ≤ 60) := hid (by rw [wideL_len]; exact hfl)
      clear hS h5 hN hfl
      generalize all[k].null = nu at hd1 hstep
      generalize wideL k all[k].first = wl at hstep G hwl
      cases nu with
      | false =>
        go_wp2_with (first
          | (at_builtin; refine wp_app _ rfl _ _ rfl w.heap.size _ _ _ _ rfl rfl hO1.out hN1.out (by have := hlen.out; have := hwl.out; omega) (by omega) ?_; intro v' w2 hO3 hb2; have hbl2 : Below w.heap.size w w2 := (bl_step hbl hbw).trans hb2; have hsz2 := hbl2.size; have he1 : w2.cell? ⟨b1, o1 + k * 5 + 1, none⟩ = some (.bool false) := (hb2.cell (by omega)).trans (keep_cell hbw hd1))
          | (go_at_call 55; refine (G.out).mono ?_; rintro e w1 ⟨v1, rfl, hOw, hbw⟩; have hs1 := hbw.size; have hO1 := hid (own_below hO.out hbw); have hN1 := hid (Nums.of_row hOw)))
        go_roundw
        case rel => exact ⟨k + 1, by omega, by go_num, by rw [hstep.out]; exact hid (by simpa using hO3), hbl2⟩
        case measure => simp [intOf]; omega
      | true =>
        go_wp2_with (first
          | (at_builtin; refine wp_app _ rfl _ _ rfl w.heap.size _ [(k : Int) * 1000 + 1000 - 1] _ _ rfl rfl hO4.out (Nums.lit1 w2 _) (by have := hlen.out; have := hwl.out; simp only [List.length_append, List.length_singleton]; omega) (by simp; omega) ?_; intro v3 w3 hO5 hb3)
          | (at_builtin; refine wp_app _ rfl _ _ rfl w.heap.size _ _ _ _ rfl rfl hO1.out hN1.out (by have := hlen.out; have := hwl.out; omega) (by omega) ?_; intro v' w2 hO3 hb2; have hbl2 : Below w.heap.size w w2 := (bl_step hbl hbw).trans hb2; have hsz2 := hbl2.size; have he1 : w2.cell? ⟨b1, o1 + k * 5 + 1, none⟩ = some (.bool true) := (hb2.cell (by omega)).trans (keep_cell hbw hd1); have hO4 := hid (World.ownsRow.alloc hO3 (.cells #[.int .i64 ((k : Int) * 1000 + 1000 - 1)] 3)))
          | (go_at_call 55; refine (G.out).mono ?_; rintro e w1 ⟨v1, rfl, hOw, hbw⟩; have hs1 := hbw.size; have hO1 := hid (own_below hO.out hbw); have hN1 := hid (Nums.of_row hOw)))
        go_roundw
        case rel => exact ⟨k + 1, by omega, by go_num, by rw [show (k : Int) * 1000 + 1000 - 1 = (k : Int) * 1000 + 999 by omega] at hO5; rw [hstep.out]; exact hid (by simpa using hO5), (hbl2.alloc hsz2 _).trans hb3⟩
        case measure => simp [intOf]; omega
    · have hltz : ¬ (k : Int) < (all.length : Int) := by omega
      obtain rfl : k = all.length := by omega
      go_wp2
      go_ret
      exact ⟨_, rfl, hO.out, hbl⟩

end Go.Proofs.YtlpbeieljjgbaaaGreatDoor
