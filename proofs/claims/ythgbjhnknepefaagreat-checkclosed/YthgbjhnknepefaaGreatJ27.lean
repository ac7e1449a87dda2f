/- The contract of topiaryref04.Of: the least one that isn't told yet, again and again; of topiaryref04.Is. The contracts of topiaryref04.Union, Both, Less. The reference: Reached. The reference: Ends. -/
import Derived.Test.YthgbjhnknepefaaGreatJ26
import Derived.Test.YthgbjhnknepefaaGreatJ10
import Derived.Test.YthgbjhnknepefaaGreatJ16
import Derived.Test.YthgbjhnknepefaaGreatJ15
namespace Go.Proofs.YthgbjhnknepefaaGreat
open Go.RowKit

def Abv (out : List Int) (x : Int) : Prop := ∀ y ∈ out, y < x
structure Pre (out l : List Int) : Prop where
  up : Up out
  sub : ∀ x ∈ out, x ∈ l
  all : ∀ x ∈ l, x ∈ out ∨ Abv out x
structure Low (out l : List Int) (k : Nat) (f : Bool) (m : Int) : Prop where
  no : f = false → ∀ x ∈ l.take k, ¬ Abv out x
  yes : f = true → m ∈ l ∧ Abv out m ∧ ∀ x ∈ l.take k, Abv out x → m ≤ x

theorem Pre.start (l : List Int) : Pre [] l := ⟨List.Pairwise.nil, fun _ h => absurd h (List.not_mem_nil), fun _ _ => Or.inr fun _ h => absurd h (List.not_mem_nil)⟩
theorem Low.start (out l : List Int) : Low out l 0 false 0 := ⟨fun _ x h => absurd h (by simp), fun h => by cases h⟩
theorem abv_nil (x : Int) : Abv [] x := fun _ h => absurd h (List.not_mem_nil)
theorem abv_last {out : List Int} {p : Nat} (hu : Up out) (hp : p < out.length) (hp1 : out.length = p + 1) (x : Int) : Abv out x ↔ out[p] < x := by
  constructor
  · intro h; exact h _ (List.getElem_mem hp)
  · intro h y hy
    obtain ⟨i, hi, rfl⟩ := List.mem_iff_getElem.1 hy
    by_cases e : i = p
    · subst e; exact h
    · have := List.pairwise_iff_getElem.1 hu i p hi hp (by omega)
      omega
theorem mem_take_succ {l : List Int} {k : Nat} (h : k < l.length) (x : Int) : x ∈ l.take (k + 1) ↔ x ∈ l.take k ∨ x = l[k] := by
  rw [List.take_succ_eq_append_getElem h, List.mem_append, List.mem_singleton]
theorem Low.skip {out l : List Int} {k : Nat} {f : Bool} {m : Int} (h : Low out l k f m) (hk : k < l.length) (ha : ¬ Abv out l[k]) : Low out l (k + 1) f m :=
  ⟨fun hf x hx => by
    rcases (mem_take_succ hk x).1 hx with hx | rfl
    · exact h.no hf x hx
    · exact ha,
   fun hf => ⟨(h.yes hf).1, (h.yes hf).2.1, fun x hx hax => by
    rcases (mem_take_succ hk x).1 hx with hx | rfl
    · exact (h.yes hf).2.2 x hx hax
    · exact absurd hax ha⟩⟩
theorem Low.first {out l : List Int} {k : Nat} {m : Int} (h : Low out l k false m) (hk : k < l.length) (ha : Abv out l[k]) : Low out l (k + 1) true l[k] :=
  ⟨fun hf => (by cases hf), fun _ => ⟨List.getElem_mem hk, ha, fun x hx hax => by
    rcases (mem_take_succ hk x).1 hx with hx | rfl
    · exact absurd hax (h.no rfl x hx)
    · exact Int.le_refl _⟩⟩
theorem Low.less {out l : List Int} {k : Nat} {m : Int} (h : Low out l k true m) (hk : k < l.length) (ha : Abv out l[k]) (hm : l[k] < m) : Low out l (k + 1) true l[k] :=
  ⟨fun hf => (by cases hf), fun _ => ⟨List.getElem_mem hk, ha, fun x hx hax => by
    rcases (mem_take_succ hk x).1 hx with hx | rfl
    · have := (h.yes rfl).2.2 x hx hax; omega
    · exact Int.le_refl _⟩⟩
theorem Low.stay {out l : List Int} {k : Nat} {m : Int} (h : Low out l k true m) (hk : k < l.length) (hm : ¬ l[k] < m) : Low out l (k + 1) true m :=
  ⟨fun hf => (by cases hf), fun _ => ⟨(h.yes rfl).1, (h.yes rfl).2.1, fun x hx hax => by
    rcases (mem_take_succ hk x).1 hx with hx | rfl
    · exact (h.yes rfl).2.2 x hx hax
    · omega⟩⟩
theorem Low.done {out l : List Int} {k : Nat} {m : Int} (h : Low out l k false m) (hk : ¬ k < l.length) (hp : Pre out l) : out = ofL l :=
  ofL_eq hp.up fun x => ⟨hp.sub x, fun hx => by
    rcases hp.all x hx with h1 | h1
    · exact h1
    · exact absurd h1 (h.no rfl x (by rwa [List.take_of_length_le (by omega)]))⟩
theorem Low.next {out l : List Int} {k : Nat} {m : Int} (h : Low out l k true m) (hk : ¬ k < l.length) (hp : Pre out l) : Pre (out ++ [m]) l := by
  obtain ⟨h1, h2, h3⟩ := h.yes rfl
  rw [List.take_of_length_le (by omega)] at h3
  refine ⟨List.pairwise_append.2 ⟨hp.up, List.pairwise_singleton _ _, fun y hy z hz => ?_⟩, fun x hx => ?_, fun x hx => ?_⟩
  · rw [List.mem_singleton] at hz; subst hz; exact h2 y hy
  · rcases List.mem_append.1 hx with hx | hx
    · exact hp.sub x hx
    · rw [List.mem_singleton] at hx; subst hx; exact h1
  · rcases hp.all x hx with e | e
    · exact Or.inl (List.mem_append_left _ e)
    · by_cases hxm : x = m
      · subst hxm; exact Or.inl (List.mem_append_right _ (List.mem_singleton.2 rfl))
      · refine Or.inr fun y hy => ?_
        rcases List.mem_append.1 hy with hy | hy
        · exact e y hy
        · rw [List.mem_singleton] at hy; subst hy
          have := h3 x hx e
          omega
theorem up_sub_len : ∀ {a b : List Int}, Up a → Up b → (∀ x ∈ a, x ∈ b) → a.length ≤ b.length
  | [], _, _, _, _ => Nat.zero_le _
  | x :: s, [], _, _, h => absurd (h x List.mem_cons_self) (List.not_mem_nil)
  | x :: s, y :: t, ha, hb, h => by
    rw [Up, List.pairwise_cons] at hb
    by_cases e : x = y
    · subst e
      rw [Up, List.pairwise_cons] at ha
      have := up_sub_len ha.2 hb.2 (fun z hz => by
        rcases List.mem_cons.1 (h z (List.mem_cons_of_mem _ hz)) with e | e
        · subst e; exact absurd (ha.1 _ hz) (by omega)
        · exact e)
      simp only [List.length_cons]; omega
    · have hx : x ∈ t := by
        rcases List.mem_cons.1 (h x List.mem_cons_self) with h1 | h1
        · exact absurd h1 e
        · exact h1
      have hyx := hb.1 x hx
      have := up_sub_len (a := x :: s) ha hb.2 (fun z hz => by
        rcases List.mem_cons.1 (h z hz) with h1 | h1
        · subst h1
          rcases List.mem_cons.1 hz with h2 | h2
          · omega
          · have := (List.pairwise_cons.1 ha).1 _ h2; omega
        · exact h1)
      simp only [List.length_cons] at this ⊢; omega
theorem Pre.len {out l : List Int} (h : Pre out l) : out.length ≤ l.length :=
  Nat.le_trans (up_sub_len h.up (ofL_up l) fun x hx => (ofL_mem x l).2 (h.sub x hx)) (ofL_len l)

def sliceLen : Value → Nat
  | .slice _ n _ => n
  | _ => 0
theorem own_len {w : World} {B : Nat} {v : Value} {l : List Int} (h : Own w B v l) : sliceLen v = l.length := by
  obtain ⟨a, cap, rfl, _⟩ := Nums.of_row h
  rfl


set_option maxRecDepth 20000 in
set_option maxHeartbeats 4000000 in
theorem refOf (v : Value) (l : List Int) (w : World) (hl : l.length ≤ 1000000) (hA : Nums w v l) :
    Calls Tryz.prog 41 #[v] w fun e w' => ∃ v', e = .returned v' ∧ Own w' w.heap.size v' (ofL l) ∧ Below w.heap.size w w' := by
  obtain ⟨aa, ca, rfl, _, _, hA⟩ := hA
  have hA0 := hid hA
  clear hA
  go_enter Tryz.func41, Tryz.ntmps41
  go_wp2
  go_loopw [3] (fun v wr => ∃ out, Own wr w.heap.size v out ∧ Hid (Pre out l) ∧ Below w.heap.size w wr) (fun v _ => l.length - sliceLen v)
  case atStart => exact ⟨[], World.ownsRow_nil _ _ _ _, hid (Pre.start l), Below.refl _ w⟩
  case round =>
    obtain ⟨out, hO0, hpre, hbl0⟩ := hrel
    have hlen := own_len hO0
    obtain ⟨ao, co, rfl, hN1⟩ := id (Nums.of_row hO0)
    clear hN1
    have hO0' := hid hO0
    clear hO0
    go_wp2
    go_loopw [4, 5, 6] (fun f m i wr => ∃ (k : Nat) (fb : Bool) (mz : Int), k ≤ l.length ∧ f = .bool fb ∧ m = .int .i64 mz ∧ i = .int .i64 k ∧ Hid (Low out l k fb mz) ∧ Hid (Own wr w.heap.size (.slice ao out.length co) out) ∧ Below w.heap.size w wr) (fun _ _ i _ => l.length - (intOf i).toNat)
    case atStart => exact ⟨0, false, 0, Nat.zero_le _, rfl, rfl, rfl, hid (Low.start out l), hO0', hbl0⟩
    case round =>
      obtain ⟨k, fb, mz, hk, rfl, rfl, rfl, hlow, hO, hbl⟩ := hrel
      by_cases hlt : k < l.length
      · have hltz : (k : Int) < (l.length : Int) := by omega
        obtain ⟨b1, o1, rfl, hb1, hc1⟩ := hA0.out k hlt
        have hd1 := (hbl.cell hb1).trans hc1
        clear hc1
        by_cases h0 : out.length = 0
        · have hz : ((out.length : Int) == 0) = true := beq_iff_eq.2 (by omega)
          have ha : Abv out l[k] := by rw [List.length_eq_zero_iff.1 h0]; exact abv_nil _
          clear h0
          cases fb with
          | false =>
            have hlow' := hid (hlow.out.first hlt ha)
            clear ha
            generalize l[k] = x at hd1 hlow'
            go_wp2_with fail
            go_quiet (fail)
            go_wp2
            go_roundw
            case rel => exact ⟨k + 1, true, _, by omega, rfl, rfl, by go_num, hlow', hid (own_below hO.out (belowN (Below.refl _ wr))), belowN hbl⟩
            case measure => simp [intOf]; omega
          | true =>
            by_cases hm : l[k] < mz
            · have hlow' := hid (hlow.out.less hlt ha hm)
              clear ha
              generalize l[k] = x at hd1 hlow' hm
              go_wp2_with fail
              go_quiet (fail)
              go_wp2
              go_roundw
              case rel => exact ⟨k + 1, true, _, by omega, rfl, rfl, by go_num, hlow', hid (own_below hO.out (belowN (Below.refl _ wr))), belowN hbl⟩
              case measure => simp [intOf]; omega
            · have hlow' := hid (hlow.out.stay hlt hm)
              clear ha
              generalize l[k] = x at hd1 hm
              go_wp2_with fail
              go_quiet (fail)
              go_wp2
              go_roundw
              case rel => exact ⟨k + 1, true, _, by omega, rfl, rfl, by go_num, hlow', hid (own_below hO.out (belowN (Below.refl _ wr))), belowN hbl⟩
              case measure => simp [intOf]; omega
        · have hz : ((out.length : Int) == 0) = false := beq_eq_false_iff_ne.2 (by omega)
          obtain ⟨p, hp⟩ : ∃ p, out.length = p + 1 := ⟨out.length - 1, by omega⟩
          have hpl : p < out.length := by omega
          have hpz : (p : Int) < (out.length : Int) := by omega
          have hw : IntKind.i64.wrap ((out.length : Int) - 1) = (p : Int) := by have := hpre.out.len; rw [IntKind.wrap_i64]; omega
          have hal := abv_last hpre.out.up hpl hp l[k]
          obtain ⟨b2, o2, co2, e2, hcap2, hb2, hc2⟩ := (Nums.of_row hO.out).at (by omega)
          injection e2 with e2 e3 e4; subst e2; subst e4
          have hd2 := hc2 p hpl
          clear hc2 hp h0
          by_cases hy : out[p] < l[k]
          · have ha := hal.2 hy
            have hy' := hy
            clear hal hy
            generalize out[p] = y at hd2 hy'
            cases fb with
            | false =>
              have hlow' := hid (hlow.out.first hlt ha)
              clear ha
              generalize l[k] = x at hd1 hlow' hy'
              go_wp2_with fail
              go_quiet (fail)
              go_wp2
              go_roundw
              case rel => exact ⟨k + 1, true, _, by omega, rfl, rfl, by go_num, hlow', hid (own_below hO.out (belowN (Below.refl _ wr))), belowN hbl⟩
              case measure => simp [intOf]; omega
            | true =>
              by_cases hm : l[k] < mz
              · have hlow' := hid (hlow.out.less hlt ha hm)
                clear ha
                generalize l[k] = x at hd1 hlow' hm hy'
                go_wp2_with fail
                go_quiet (fail)
                go_wp2
                go_roundw
                case rel => exact ⟨k + 1, true, _, by omega, rfl, rfl, by go_num, hlow', hid (own_below hO.out (belowN (Below.refl _ wr))), belowN hbl⟩
                case measure => simp [intOf]; omega
              · have hlow' := hid (hlow.out.stay hlt hm)
                clear ha
                generalize l[k] = x at hd1 hm hy'
                go_wp2_with fail
                go_quiet (fail)
                go_wp2
                go_roundw
                case rel => exact ⟨k + 1, true, _, by omega, rfl, rfl, by go_num, hlow', hid (own_below hO.out (belowN (Below.refl _ wr))), belowN hbl⟩
                case measure => simp [intOf]; omega
          · have hna : ¬ Abv out l[k] := fun h => hy (hal.1 h)
            have hlow' := hid (hlow.out.skip hlt hna)
            clear hal hna
            generalize out[p] = y at hd2 hy
            generalize l[k] = x at hd1 hy
            go_wp2_with fail
            go_quiet (fail)
            go_wp2
            go_roundw
            case rel => exact ⟨k + 1, fb, mz, by omega, rfl, rfl, by go_num, hlow', hid (own_below hO.out (belowN (Below.refl _ wr))), belowN hbl⟩
            case measure => simp [intOf]; omega
      · have hltz : ¬ (k : Int) < (l.length : Int) := by omega
        cases fb with
        | false =>
          have hres := hid (hlow.out.done hlt hpre.out)
          go_wp2
          go_ret
          exact ⟨_, rfl, by rw [← hres.out]; exact hO.out, hbl⟩
        | true =>
          have hpre' := hid (hlow.out.next hlt hpre.out)
          have hlen' := hpre'.out.len
          rw [List.length_append] at hlen'
          have hsz := hbl.size
          have hlen1 : out.length < l.length := by simp at hlen'; omega
          go_wp2_with (at_builtin; refine wp_app _ rfl _ _ rfl w.heap.size out [mz] _ _ rfl rfl (hO.out.alloc _) (Nums.of_row (Own.lit1 _ _)) (by simp; omega) (by simp; omega) ?_; intro v' w2 hO2 hb2)
          go_wp2
          go_roundw
          case rel => exact ⟨_, hO2, hpre', (hbl.alloc hsz _).trans hb2⟩
          case measure =>
            have e1 := own_len hO2
            rw [List.length_append] at e1
            simp [e1, hlen]
            omega

end Go.Proofs.YthgbjhnknepefaaGreat
namespace Go.Proofs.YthgbjhnknepefaaGreat
open Go.RowKit

theorem Nums.lit1 (u : World) (a : Int) : Nums (u.alloc (.cells #[.int .i64 a] 3)) (.slice (some ⟨u.heap.size, 0, none⟩) 1 1) [a] := Nums.of_row (Own.lit1 u a)
set_option maxRecDepth 20000 in
theorem numHas (v : Value) (l : List Int) (n : Int) (w : World) (hl : l.length ≤ 1000000) (hA : Nums w v l) :
    Calls Tryz.prog 21 #[v, .int .i64 n] w fun e w' => e = .returned (.bool (l.contains n)) ∧ w' = w := by
  obtain ⟨aa, ca, rfl, _, _, hA⟩ := hA
  obtain ⟨r, hr⟩ : ∃ r, Hid (l.contains n = r) := ⟨_, hid rfl⟩
  rw [show l.contains n = r from hr.out]
  go_enter Tryz.func21, Tryz.ntmps21
  go_wp2
  go_loop [5] (fun i => ∃ k : Nat, k ≤ l.length ∧ i = .int .i64 k ∧ ¬ n ∈ l.take k) (fun i => l.length - (intOf i).toNat)
  case atStart => exact ⟨0, Nat.zero_le _, rfl, by simp⟩
  case round =>
    obtain ⟨k, hk, rfl, hn⟩ := hrel
    by_cases hlt : k < l.length
    · have hltz : (k : Int) < (l.length : Int) := by omega
      obtain ⟨b1, o1, rfl, hb1, hc1⟩ := hA k hlt
      clear hA
      by_cases h : l[k] = n
      · have hres : r = true := by rw [← hr.out]; rw [List.contains_iff_mem, ← h]; exact List.getElem_mem hlt
        have hb : (l[k] == n) = true := beq_iff_eq.2 h
        generalize l[k] = x at hc1 hb
        clear h hn
        go_wp2
        go_ret
        exact ⟨by first | rfl | (rw [hres]; rfl), rfl⟩
      · have hn' : ¬ n ∈ l.take (k + 1) := by
          rw [List.take_succ_eq_append_getElem hlt, List.mem_append, List.mem_singleton]
          rintro (e | e)
          · exact hn e
          · exact h e.symm
        have hb : (l[k] == n) = false := beq_eq_false_iff_ne.2 h
        generalize l[k] = x at hc1 hb
        clear h hn
        go_wp2
        go_round
        case rel => exact ⟨k + 1, by omega, by go_num, hn'⟩
        case measure => simp [intOf]; omega
    · have hltz : ¬ (k : Int) < (l.length : Int) := by omega
      have hres : r = false := by
        rw [← hr.out]
        rw [List.take_of_length_le (by omega)] at hn
        rw [← Bool.not_eq_true, List.contains_iff_mem]; exact hn
      clear hA hn
      go_wp2
      go_ret
      exact ⟨by first | rfl | (rw [hres]; rfl), rfl⟩

end Go.Proofs.YthgbjhnknepefaaGreat
namespace Go.Proofs.YthgbjhnknepefaaGreat
open Go.RowKit Go.Maps Go.Sort

theorem foldl_take {α : Type} (f : List Int → α → List Int) (l : List α) (o : List Int) {k : Nat} (hk : k < l.length) : (l.take (k + 1)).foldl f o = f ((l.take k).foldl f o) l[k] := by
  rw [List.take_add_one, List.getElem?_eq_getElem hk, Option.toList_some, List.foldl_append]
  rfl
/-- on the way: so many rounds, productions, symbols -/
def rcQ (g : Gm) (r i : Nat) : List Int := (g.prods.take i).foldl (rcP g.terms) (rcN g r)
def rcT (g : Gm) (r i k : Nat) : List Int := ((g.prods.getD i ⟨0, [], 0⟩).right.take k).foldl (rcS g.terms (g.prods.getD i ⟨0, [], 0⟩).left) (rcQ g r i)
theorem rcQ_good (g : Gm) (r i : Nat) : RcI g (rcQ g r i) := by
  refine fold_keep (P := RcI g) (g.prods.take i) _ (fun o p hp ho => ?_) (rcN_good g r)
  refine fold_keep (P := RcI g) p.right o (fun o n hn ho => ?_) ho
  exact ho.sym (List.mem_of_mem_take hp) hn
theorem rcT_good (g : Gm) (r : Nat) {i : Nat} (hi : i < g.prods.length) (k : Nat) : RcI g (rcT g r i k) := by
  unfold rcT
  rw [List.getD_eq_getElem?_getD, List.getElem?_eq_getElem hi]
  refine fold_keep (P := RcI g) _ _ (fun o n hn ho => ?_) (rcQ_good g r i)
  exact ho.sym (List.getElem_mem hi) (List.mem_of_mem_take hn)
theorem RcI.len {g : Gm} (hg : SndG g) {l : List Int} (h : RcI g l) : l.length ≤ 16 := by
  have h1 := nodup_le g.nonts.length l (g.terms : Int) h.2 (fun n hn => by
    have := (h.1 n hn).range hg
    unfold Gm.all at this
    omega)
  have := hg.nonts
  omega

theorem rcS_eq (tm : Nat) (l : Int) (out : List Int) (n : Int) : rcS tm l out n = if (decide ((tm : Int) < n) && (out.contains l && !out.contains n)) = true then out ++ [n] else out := by
  unfold rcS
  by_cases h1 : (tm : Int) < n <;> by_cases h2 : l ∈ out <;> by_cases h3 : n ∈ out <;> simp [h1, h2, h3]
set_option maxRecDepth 20000 in
set_option maxHeartbeats 16000000 in
theorem refReached (g : Gm) (rv nv lv pv : Value) (w : World) (hV : GmV w rv nv lv pv g) (hb : BndG g) (hg : SndG g) :
    Calls Tryz.prog 18 #[gmA rv nv lv pv g.start] w fun e w' => ∃ v, e = .returned v ∧ (∃ B, Own w' B v (ofL (rcN g (g.nonts.length + 1)))) ∧ Below w.heap.size w w' := by
  obtain ⟨ra, rc, rfl⟩ := hV.rules.shape
  obtain ⟨na, nc, rfl⟩ := hV.nonts.shape
  obtain ⟨la, lc, rfl⟩ := hV.levels.shape
  obtain ⟨pa, pc, rfl⟩ := hV.prods.shape
  have hB1 := al' w (.cells #[.slice ra g.rules.length rc, .slice na g.nonts.length nc, .slice la g.levels.length lc, .slice pa g.prods.length pc, .int .i64 g.start] 27)
  have k1 := heap_new w (.cells #[.slice ra g.rules.length rc, .slice na g.nonts.length nc, .slice la g.levels.length lc, .slice pa g.prods.length pc, .int .i64 g.start] 27)
  obtain ⟨W, hW⟩ : ∃ x, w.alloc (.cells #[.slice ra g.rules.length rc, .slice na g.nonts.length nc, .slice la g.levels.length lc, .slice pa g.prods.length pc, .int .i64 g.start] 27) = x := ⟨_, rfl⟩
  rw [hW] at hB1 k1
  have hk1 := hid (fun u (hu : Below W.heap.size W u) => cells5m (hs_keep k1 hu))
  have hB := hid hB1
  have b2 := hg.nonts
  have b4 := hg.prods
  have hKp : Hid (∀ u, Below w.heap.size w u → ∀ k (hk : k < g.prods.length), ∃ b o q1 q3, pa = some ⟨b, o, none⟩ ∧ u.cell? ⟨b, o + k * 3, none⟩ = some (.int .i64 g.prods[k].left) ∧ u.cell? ⟨b, o + k * 3 + 1, none⟩ = some (.slice q1 g.prods[k].right.length q3) ∧ ∀ j (hj : j < g.prods[k].right.length), ∃ b2 o2, q1 = some ⟨b2, o2, none⟩ ∧ u.cell? ⟨b2, o2 + j, none⟩ = some (.int .i64 g.prods[k].right[j])) := hid (fun u hu k hk => by
    obtain ⟨b, o, e, -, hx⟩ := (hV.keep hu).prods.at hk
    obtain ⟨v, x0, x1, x2, hN⟩ := hx
    have hN2 := hN
    obtain ⟨q1, q3, rfl, _, _, hat⟩ := hN2
    refine ⟨b, o, q1, q3, e, x0, x1, fun j hj => ?_⟩
    obtain ⟨b2, o2, e2, -, hc⟩ := hat j hj
    exact ⟨b2, o2, e2, hc⟩)
  have GT := hid (fun u (hu : Below w.heap.size w u) => refTermsC _ _ _ _ g u (hV.keep hu) (by have := hb.rules; omega))
  have hrl := hid (fun k (hk : k < g.prods.length) => (hb.right _ (List.getElem_mem hk)))
  have q0 : Hid (∀ r, rcQ g r 0 = rcN g r) := hid (fun r => rfl)
  have q1 : Hid (∀ r, rcN g (r + 1) = rcQ g r g.prods.length) := hid (fun r => by unfold rcQ; rw [List.take_length]; rfl)
  have t0 : Hid (∀ r i, rcT g r i 0 = rcQ g r i) := hid (fun r i => rfl)
  have t1 : Hid (∀ r i (hi : i < g.prods.length), rcQ g r (i + 1) = rcT g r i g.prods[i].right.length) := hid (fun r i hi => by
    unfold rcT rcQ
    rw [foldl_take _ _ _ hi, List.getD_eq_getElem?_getD, List.getElem?_eq_getElem hi, Option.getD_some, List.take_length]
    rfl)
  have t2 : Hid (∀ r i k (hi : i < g.prods.length) (hk : k < g.prods[i].right.length), rcT g r i (k + 1) = if (decide ((g.terms : Int) < g.prods[i].right[k]) && ((rcT g r i k).contains g.prods[i].left && !(rcT g r i k).contains g.prods[i].right[k])) = true then rcT g r i k ++ [g.prods[i].right[k]] else rcT g r i k) := hid (fun r i k hi hk => by
    unfold rcT
    rw [List.getD_eq_getElem?_getD, List.getElem?_eq_getElem hi, Option.getD_some, foldl_take _ _ _ hk, rcS_eq])
  have lT := hid (fun r i (hi : i < g.prods.length) k => (rcT_good g r hi k).len hg)
  have lN := hid (fun r => (rcN_good g r).len hg)
  have hst : Hid (rcN g 0 = if 0 < g.start then [g.start] else []) := hid rfl
  clear hV hB1 k1 hb hg
  obtain ⟨nn, hnn⟩ : ∃ n, Hid (g.nonts.length = n) := ⟨_, hid rfl⟩
  obtain ⟨pp, hpp⟩ : ∃ n, Hid (g.prods.length = n) := ⟨_, hid rfl⟩
  rw [hnn.out] at b2 hk1 GT hW ⊢
  rw [hpp.out] at b4 hk1 GT hW q1 ⊢
  generalize rcN g = FN at *
  generalize rcQ g = FQ at *
  generalize rcT g = FT at *
  generalize g.terms = tm at *
  generalize g.rules.length = rn at *
  generalize g.levels.length = ll at *
  generalize g.start = st at *
  obtain ⟨y0, y1, y2, y3, y4⟩ := hk1.out W (Below.refl _ _)
  by_cases h0 : 0 < st
  · rw [if_pos h0] at hst
    have hst := hid hst.out
    have G0 := hid (GT.out W hB.out)
    go_enter Tryz.func18, Tryz.ntmps18
    go_wp2_with (first
      | (go_at_call 20; refine G0.out.mono ?_; clear G0; rintro e w1 ⟨rfl, hc1⟩; obtain ⟨x0, x1, x2, x3, x4⟩ := hk1.out w1 hc1; have hBa := hid (bl_step hc1 (al' w1 (.cells #[.int .i64 st] 3))); have hDa := hid (Nums.of_row (Own.lit1 w1 st)); clear hc1)
      | (at_builtin; refine wp_app _ rfl _ _ rfl W.heap.size [] [st] _ _ rfl rfl (World.ownsRow_nil _ _ _ _) hDa.out (by simp) hBa.out.size ?_; intro v4 w4 hO4 hb4; have hO0 : Hid (Own w4 W.heap.size v4 (FN 0)) := (by rw [hst.out]; exact hid hO4); have hb0 := hid (hBa.out.trans hb4); clear hO4 hb4))
    clear hW y0 y1 y2 y3 y4 h0 hst GT hBa hDa x0 x1 x2 x3 x4
    go_loopw [4, 5] (fun v i wr => ∃ r : Nat, r ≤ nn + 1 ∧ i = .int .i64 (r : Int) ∧ Hid (Own wr W.heap.size v (FN r)) ∧ Hid (Below W.heap.size W wr)) (fun _ i _ => nn + 1 - (intOf i).toNat)
    case atStart => exact ⟨0, Nat.zero_le _, rfl, hO0, hb0⟩
    case round =>
      clear hO0 hb0
      obtain ⟨r, hr, rfl, hO, hbl⟩ := hrel
      obtain ⟨y0, y1, y2, y3, y4⟩ := hk1.out wr hbl.out
      by_cases hlt : r ≤ nn
      · have hltz : (r : Int) ≤ (nn : Int) := by omega
        have hO1 := hid hO.out
        rw [← q0.out] at hO1
        clear hO
        go_wp2
        clear y0 y1 y2 y3 y4 hltz
        go_loopw [4, 6] (fun v i wr => ∃ i' : Nat, i' ≤ pp ∧ i = .int .i64 (i' : Int) ∧ Hid (Own wr W.heap.size v (FQ r i')) ∧ Hid (Below W.heap.size W wr)) (fun _ i _ => pp - (intOf i).toNat)
        case atStart => exact ⟨0, Nat.zero_le _, rfl, hO1, hbl⟩
        case round =>
          clear hO1 hbl
          obtain ⟨i, hi, rfl, hO, hbl⟩ := hrel
          obtain ⟨y0, y1, y2, y3, y4⟩ := hk1.out wr hbl.out
          by_cases hli : i < pp
          · have hliz : (i : Int) < (pp : Int) := by omega
            have hil : i < g.prods.length := by rw [hpp.out]; exact hli
            have hO1 := hid hO.out
            rw [← t0.out] at hO1
            have hE := hid (t1.out r i hil)
            have hS := hid (fun k hk => t2.out r i k hil hk)
            have hL := hid (fun k => lT.out r i hil k)
            have hP := hid (fun u hu => hKp.out u hu i hil)
            have hR8 := hrl.out i hil
            clear hO
            go_wp2
            clear y0 y1 y2 y3 y4
            obtain ⟨rl, hrlH⟩ : ∃ n, Hid (g.prods[i].right.length = n) := ⟨_, hid rfl⟩
            rw [hrlH.out] at hE hR8
            go_loopw [4, 7] (fun v i' wr => ∃ k : Nat, k ≤ rl ∧ i' = .int .i64 (k : Int) ∧ Hid (Own wr W.heap.size v (FT r i k)) ∧ Hid (Below W.heap.size W wr)) (fun _ i' _ => rl - (intOf i').toNat)
            case atStart => exact ⟨0, Nat.zero_le _, rfl, hO1, hbl⟩
            case round =>
              clear hO1 hbl
              obtain ⟨k, hk, rfl, hO, hbl⟩ := hrel
              obtain ⟨y0, y1, y2, y3, y4⟩ := hk1.out wr hbl.out
              obtain ⟨b, o, z1, z3, e, x0, x1, hat⟩ := hP.out wr (bl_step hB.out hbl.out)
              subst e
              rw [hrlH.out] at x1
              by_cases hlk : k < rl
              · have hlkz : (k : Int) < (rl : Int) := by omega
                have hkl : k < g.prods[i].right.length := by rw [hrlH.out]; exact hlk
                obtain ⟨b2, o2, e2, x2⟩ := hat k hkl
                subst e2
                have hs := hS.out k hkl
                have hl9 := hL.out k
                have G1 := hid (numHas _ (FT r i k) g.prods[i].left wr (by omega) (Nums.of_row hO.out))
                have G2 := hid (numHas _ (FT r i k) g.prods[i].right[k] wr (by omega) (Nums.of_row hO.out))
                clear hat
                generalize g.prods[i].right[k] = x at *
                generalize g.prods[i].left = xl at *
                generalize hc1 : (FT r i k).contains xl = cc1 at *
                generalize hc2 : (FT r i k).contains x = cc2 at *
                clear hc1 hc2
                by_cases a1 : (tm : Int) < x
                · have a1b : decide ((tm : Int) < x) = true := decide_eq_true a1
                  clear a1
                  cases cc1 with
                  | false =>
                    rw [a1b, Bool.false_and, Bool.and_false, if_neg (by decide)] at hs
                    have hO9 := hid hO.out
                    rw [← hs] at hO9
                    clear hs hO G2 hl9
                    go_wp2_with (go_at_call 21; refine G1.out.mono ?_; clear G1; rintro e w3 ⟨rfl, hc3⟩; subst w3)
                    go_roundw
                    case rel => exact ⟨k + 1, by omega, by go_num, hO9, hbl⟩
                    case measure => simp [intOf]; omega
                  | true =>
                    cases cc2 with
                    | true =>
                      rw [a1b, Bool.true_and, Bool.true_and, Bool.not_true, if_neg (by decide)] at hs
                      have hO9 := hid hO.out
                      rw [← hs] at hO9
                      clear hs hO hl9
                      go_wp2_with (first
                        | (go_at_call 21; refine G1.out.mono ?_; clear G1; rintro e w3 ⟨rfl, hc3⟩; subst w3)
                        | (go_at_call 21; refine G2.out.mono ?_; clear G2; rintro e w3 ⟨rfl, hc3⟩; subst w3))
                      go_roundw
                      case rel => exact ⟨k + 1, by omega, by go_num, hO9, hbl⟩
                      case measure => simp [intOf]; omega
                    | false =>
                      rw [a1b, Bool.true_and, Bool.true_and, Bool.not_false, if_pos rfl] at hs
                      have hs := hid hs
                      have hal := al' wr (.cells #[.int .i64 x] 3)
                      have hOa := hid (own_below hO.out hal)
                      have hDa := hid (Nums.of_row (Own.lit1 wr x))
                      have hBa := hid (bl_step hbl.out hal)
                      clear hO hal
                      go_wp2_with (first
                        | (go_at_call 21; refine G1.out.mono ?_; clear G1; rintro e w3 ⟨rfl, hc3⟩; subst w3)
                        | (go_at_call 21; refine G2.out.mono ?_; clear G2; rintro e w3 ⟨rfl, hc3⟩; subst w3)
                        | (at_builtin; refine wp_app _ rfl _ _ rfl W.heap.size (FT r i k) [x] _ _ rfl rfl hOa.out hDa.out (by simp; omega) hBa.out.size ?_; intro v4 w4 hO4 hb4; have hO9 := hid hO4; have hb9 := hid (hBa.out.trans hb4); clear hO4 hb4))
                      go_roundw
                      case rel => exact ⟨k + 1, by omega, by go_num, hid (by rw [hs.out]; exact hO9.out), hb9⟩
                      case measure => simp [intOf]; omega
                · have a1b : decide ((tm : Int) < x) = false := decide_eq_false a1
                  clear a1
                  rw [a1b, Bool.false_and, if_neg (by decide)] at hs
                  have hO9 := hid hO.out
                  rw [← hs] at hO9
                  clear hs hO G1 G2 hl9
                  go_wp2
                  go_roundw
                  case rel => exact ⟨k + 1, by omega, by go_num, hO9, hbl⟩
                  case measure => simp [intOf]; omega
              · have hlkz : ¬ (k : Int) < (rl : Int) := by omega
                obtain rfl : k = rl := by omega
                have hO9 := hid hO.out
                rw [← hE.out] at hO9
                clear hO hat
                go_wp2
                go_roundw
                case rel => exact ⟨i + 1, by omega, by go_num, hO9, hbl⟩
                case measure => simp [intOf]; omega
          · have hliz : ¬ (i : Int) < (pp : Int) := by omega
            obtain rfl : i = pp := by omega
            have hO9 := hid hO.out
            rw [← q1.out] at hO9
            clear hO
            go_wp2
            go_roundw
            case rel => exact ⟨r + 1, by omega, by go_num, hO9, hbl⟩
            case measure => simp [intOf]; omega
      · have hltz : ¬ (r : Int) ≤ (nn : Int) := by omega
        obtain rfl : r = nn + 1 := by omega
        have hl9 := lN.out (nn + 1)
        have G := hid (refOf _ (FN (nn + 1)) wr (by omega) (Nums.of_row hO.out))
        clear hO
        go_wp2_with (go_at_call 41; refine G.out.mono ?_; clear G; rintro e w5 ⟨v5, rfl, hO5, hc5⟩; have hO5 := hid hO5; have hc5 := hid hc5)
        go_ret
        exact ⟨_, rfl, ⟨_, hO5.out⟩, bl_step hB.out (bl_step hbl.out hc5.out)⟩
  · rw [if_neg h0] at hst
    have hst := hid hst.out
    have G0 := hid (GT.out W hB.out)
    go_enter Tryz.func18, Tryz.ntmps18
    go_wp2_with (go_at_call 20; refine G0.out.mono ?_; clear G0; rintro e w1 ⟨rfl, hc1⟩; obtain ⟨x0, x1, x2, x3, x4⟩ := hk1.out w1 hc1; have hb0 := hid hc1; clear hc1)
    have hO0 : Hid (Own w1 W.heap.size (.slice none 0 0) (FN 0)) := hid (by rw [hst.out]; exact World.ownsRow_nil _ _ _ _)
    clear hW y0 y1 y2 y3 y4 h0 hst GT x0 x1 x2 x3 x4
    go_loopw [4, 5] (fun v i wr => ∃ r : Nat, r ≤ nn + 1 ∧ i = .int .i64 (r : Int) ∧ Hid (Own wr W.heap.size v (FN r)) ∧ Hid (Below W.heap.size W wr)) (fun _ i _ => nn + 1 - (intOf i).toNat)
    case atStart => exact ⟨0, Nat.zero_le _, rfl, hO0, hb0⟩
    case round =>
      clear hO0 hb0
      obtain ⟨r, hr, rfl, hO, hbl⟩ := hrel
      obtain ⟨y0, y1, y2, y3, y4⟩ := hk1.out wr hbl.out
      by_cases hlt : r ≤ nn
      · have hltz : (r : Int) ≤ (nn : Int) := by omega
        have hO1 := hid hO.out
        rw [← q0.out] at hO1
        clear hO
        go_wp2
        clear y0 y1 y2 y3 y4 hltz
        go_loopw [4, 6] (fun v i wr => ∃ i' : Nat, i' ≤ pp ∧ i = .int .i64 (i' : Int) ∧ Hid (Own wr W.heap.size v (FQ r i')) ∧ Hid (Below W.heap.size W wr)) (fun _ i _ => pp - (intOf i).toNat)
        case atStart => exact ⟨0, Nat.zero_le _, rfl, hO1, hbl⟩
        case round =>
          clear hO1 hbl
          obtain ⟨i, hi, rfl, hO, hbl⟩ := hrel
          obtain ⟨y0, y1, y2, y3, y4⟩ := hk1.out wr hbl.out
          by_cases hli : i < pp
          · have hliz : (i : Int) < (pp : Int) := by omega
            have hil : i < g.prods.length := by rw [hpp.out]; exact hli
            have hO1 := hid hO.out
            rw [← t0.out] at hO1
            have hE := hid (t1.out r i hil)
            have hS := hid (fun k hk => t2.out r i k hil hk)
            have hL := hid (fun k => lT.out r i hil k)
            have hP := hid (fun u hu => hKp.out u hu i hil)
            have hR8 := hrl.out i hil
            clear hO
            go_wp2
            clear y0 y1 y2 y3 y4
            obtain ⟨rl, hrlH⟩ : ∃ n, Hid (g.prods[i].right.length = n) := ⟨_, hid rfl⟩
            rw [hrlH.out] at hE hR8
            go_loopw [4, 7] (fun v i' wr => ∃ k : Nat, k ≤ rl ∧ i' = .int .i64 (k : Int) ∧ Hid (Own wr W.heap.size v (FT r i k)) ∧ Hid (Below W.heap.size W wr)) (fun _ i' _ => rl - (intOf i').toNat)
            case atStart => exact ⟨0, Nat.zero_le _, rfl, hO1, hbl⟩
            case round =>
              clear hO1 hbl
              obtain ⟨k, hk, rfl, hO, hbl⟩ := hrel
              obtain ⟨y0, y1, y2, y3, y4⟩ := hk1.out wr hbl.out
              obtain ⟨b, o, z1, z3, e, x0, x1, hat⟩ := hP.out wr (bl_step hB.out hbl.out)
              subst e
              rw [hrlH.out] at x1
              by_cases hlk : k < rl
              · have hlkz : (k : Int) < (rl : Int) := by omega
                have hkl : k < g.prods[i].right.length := by rw [hrlH.out]; exact hlk
                obtain ⟨b2, o2, e2, x2⟩ := hat k hkl
                subst e2
                have hs := hS.out k hkl
                have hl9 := hL.out k
                have G1 := hid (numHas _ (FT r i k) g.prods[i].left wr (by omega) (Nums.of_row hO.out))
                have G2 := hid (numHas _ (FT r i k) g.prods[i].right[k] wr (by omega) (Nums.of_row hO.out))
                clear hat
                generalize g.prods[i].right[k] = x at *
                generalize g.prods[i].left = xl at *
                generalize hc1 : (FT r i k).contains xl = cc1 at *
                generalize hc2 : (FT r i k).contains x = cc2 at *
                clear hc1 hc2
                by_cases a1 : (tm : Int) < x
                · have a1b : decide ((tm : Int) < x) = true := decide_eq_true a1
                  clear a1
                  cases cc1 with
                  | false =>
                    rw [a1b, Bool.false_and, Bool.and_false, if_neg (by decide)] at hs
                    have hO9 := hid hO.out
                    rw [← hs] at hO9
                    clear hs hO G2 hl9
                    go_wp2_with (go_at_call 21; refine G1.out.mono ?_; clear G1; rintro e w3 ⟨rfl, hc3⟩; subst w3)
                    go_roundw
                    case rel => exact ⟨k + 1, by omega, by go_num, hO9, hbl⟩
                    case measure => simp [intOf]; omega
                  | true =>
                    cases cc2 with
                    | true =>
                      rw [a1b, Bool.true_and, Bool.true_and, Bool.not_true, if_neg (by decide)] at hs
                      have hO9 := hid hO.out
                      rw [← hs] at hO9
                      clear hs hO hl9
                      go_wp2_with (first
                        | (go_at_call 21; refine G1.out.mono ?_; clear G1; rintro e w3 ⟨rfl, hc3⟩; subst w3)
                        | (go_at_call 21; refine G2.out.mono ?_; clear G2; rintro e w3 ⟨rfl, hc3⟩; subst w3))
                      go_roundw
                      case rel => exact ⟨k + 1, by omega, by go_num, hO9, hbl⟩
                      case measure => simp [intOf]; omega
                    | false =>
                      rw [a1b, Bool.true_and, Bool.true_and, Bool.not_false, if_pos rfl] at hs
                      have hs := hid hs
                      have hal := al' wr (.cells #[.int .i64 x] 3)
                      have hOa := hid (own_below hO.out hal)
                      have hDa := hid (Nums.of_row (Own.lit1 wr x))
                      have hBa := hid (bl_step hbl.out hal)
                      clear hO hal
                      go_wp2_with (first
                        | (go_at_call 21; refine G1.out.mono ?_; clear G1; rintro e w3 ⟨rfl, hc3⟩; subst w3)
                        | (go_at_call 21; refine G2.out.mono ?_; clear G2; rintro e w3 ⟨rfl, hc3⟩; subst w3)
                        | (at_builtin; refine wp_app _ rfl _ _ rfl W.heap.size (FT r i k) [x] _ _ rfl rfl hOa.out hDa.out (by simp; omega) hBa.out.size ?_; intro v4 w4 hO4 hb4; have hO9 := hid hO4; have hb9 := hid (hBa.out.trans hb4); clear hO4 hb4))
                      go_roundw
                      case rel => exact ⟨k + 1, by omega, by go_num, hid (by rw [hs.out]; exact hO9.out), hb9⟩
                      case measure => simp [intOf]; omega
                · have a1b : decide ((tm : Int) < x) = false := decide_eq_false a1
                  clear a1
                  rw [a1b, Bool.false_and, if_neg (by decide)] at hs
                  have hO9 := hid hO.out
                  rw [← hs] at hO9
                  clear hs hO G1 G2 hl9
                  go_wp2
                  go_roundw
                  case rel => exact ⟨k + 1, by omega, by go_num, hO9, hbl⟩
                  case measure => simp [intOf]; omega
              · have hlkz : ¬ (k : Int) < (rl : Int) := by omega
                obtain rfl : k = rl := by omega
                have hO9 := hid hO.out
                rw [← hE.out] at hO9
                clear hO hat
                go_wp2
                go_roundw
                case rel => exact ⟨i + 1, by omega, by go_num, hO9, hbl⟩
                case measure => simp [intOf]; omega
          · have hliz : ¬ (i : Int) < (pp : Int) := by omega
            obtain rfl : i = pp := by omega
            have hO9 := hid hO.out
            rw [← q1.out] at hO9
            clear hO
            go_wp2
            go_roundw
            case rel => exact ⟨r + 1, by omega, by go_num, hO9, hbl⟩
            case measure => simp [intOf]; omega
      · have hltz : ¬ (r : Int) ≤ (nn : Int) := by omega
        obtain rfl : r = nn + 1 := by omega
        have hl9 := lN.out (nn + 1)
        have G := hid (refOf _ (FN (nn + 1)) wr (by omega) (Nums.of_row hO.out))
        clear hO
        go_wp2_with (go_at_call 41; refine G.out.mono ?_; clear G; rintro e w5 ⟨v5, rfl, hO5, hc5⟩; have hO5 := hid hO5; have hc5 := hid hc5)
        go_ret
        exact ⟨_, rfl, ⟨_, hO5.out⟩, bl_step hB.out (bl_step hbl.out hc5.out)⟩

end Go.Proofs.YthgbjhnknepefaaGreat
namespace Go.Proofs.YthgbjhnknepefaaGreat
open Go.RowKit Go.Maps Go.Sort

def enQ (g : Gm) (r i : Nat) : List Int := (g.prods.take i).foldl (enP g.terms) (enN g r)
/-- do all of the first k symbols end? -/
def enB (g : Gm) (out : List Int) (i k : Nat) : Bool := ((g.prods.getD i ⟨0, [], 0⟩).right.take k).all fun n => decide (n ≤ (g.terms : Int)) || out.contains n
theorem EnI.prod {g : Gm} {o : List Int} (ho : EnI g o) {p : Pd} (hp : p ∈ g.prods) : EnI g (enP g.terms o p) := by
  unfold enP
  split
  · rename_i hc
    refine ⟨fun m hm => ?_, ?_⟩
    · rw [List.mem_append, List.mem_singleton] at hm
      rcases hm with hm | rfl
      · exact ho.1 m hm
      · refine Ends.prod p hp (fun n hn ht => ?_)
        rcases hc.1 n hn with h1 | h1
        · omega
        · exact ho.1 n h1
    · rw [List.nodup_append]
      refine ⟨ho.2, List.pairwise_singleton _ _, fun a ha b hb => ?_⟩
      rw [List.mem_singleton] at hb
      subst hb
      exact fun e => hc.2 (e ▸ ha)
  · exact ho
theorem enQ_good (g : Gm) (r i : Nat) : EnI g (enQ g r i) := fold_keep (P := EnI g) (g.prods.take i) _ (fun _ _ hp ho => ho.prod (List.mem_of_mem_take hp)) (enN_good g r)
theorem EnI.len {g : Gm} (hg : SndG g) {l : List Int} (h : EnI g l) : l.length ≤ 16 := by
  have h1 := nodup_le g.nonts.length l (g.terms : Int) h.2 (fun n hn => by
    have := (h.1 n hn).range hg
    unfold Gm.all at this
    omega)
  have := hg.nonts
  omega
theorem enP_eq (g : Gm) (out : List Int) {i : Nat} (hi : i < g.prods.length) : enP g.terms out g.prods[i] = if (enB g out i g.prods[i].right.length && !out.contains g.prods[i].left) = true then out ++ [g.prods[i].left] else out := by
  unfold enP enB
  rw [List.getD_eq_getElem?_getD, List.getElem?_eq_getElem hi, Option.getD_some, List.take_length]
  have h1 : (g.prods[i].right.all fun n => decide (n ≤ (g.terms : Int)) || out.contains n) = true ↔ ∀ n ∈ g.prods[i].right, n ≤ (g.terms : Int) ∨ n ∈ out := by
    rw [List.all_eq_true]
    simp only [Bool.or_eq_true, decide_eq_true_eq, List.contains_iff_mem]
  by_cases h2 : ∀ n ∈ g.prods[i].right, n ≤ (g.terms : Int) ∨ n ∈ out
  · rw [h1.2 h2]
    by_cases h3 : g.prods[i].left ∈ out
    · rw [if_neg (fun e => e.2 h3), List.contains_iff_mem.2 h3, if_neg (by decide)]
    · have h4 : out.contains g.prods[i].left = false := by rw [Bool.eq_false_iff]; exact fun e => h3 (List.contains_iff_mem.1 e)
      rw [if_pos ⟨h2, h3⟩, h4]
      rfl
  · have h5 : (g.prods[i].right.all fun n => decide (n ≤ (g.terms : Int)) || out.contains n) = false := by rw [Bool.eq_false_iff]; exact fun e => h2 (h1.1 e)
    rw [if_neg (fun e => h2 e.1), h5, Bool.false_and, if_neg (by decide)]
set_option maxRecDepth 20000 in
set_option maxHeartbeats 16000000 in
theorem refEnds (g : Gm) (rv nv lv pv : Value) (w : World) (hV : GmV w rv nv lv pv g) (hb : BndG g) (hg : SndG g) :
    Calls Tryz.prog 19 #[gmA rv nv lv pv g.start] w fun e w' => ∃ v, e = .returned v ∧ (∃ B, Own w' B v (ofL (enN g (g.nonts.length + 1)))) ∧ Below w.heap.size w w' := by
  obtain ⟨ra, rc, rfl⟩ := hV.rules.shape
  obtain ⟨na, nc, rfl⟩ := hV.nonts.shape
  obtain ⟨la, lc, rfl⟩ := hV.levels.shape
  obtain ⟨pa, pc, rfl⟩ := hV.prods.shape
  have hB1 := al' w (.cells #[.slice ra g.rules.length rc, .slice na g.nonts.length nc, .slice la g.levels.length lc, .slice pa g.prods.length pc, .int .i64 g.start] 27)
  have k1 := heap_new w (.cells #[.slice ra g.rules.length rc, .slice na g.nonts.length nc, .slice la g.levels.length lc, .slice pa g.prods.length pc, .int .i64 g.start] 27)
  obtain ⟨W, hW⟩ : ∃ x, w.alloc (.cells #[.slice ra g.rules.length rc, .slice na g.nonts.length nc, .slice la g.levels.length lc, .slice pa g.prods.length pc, .int .i64 g.start] 27) = x := ⟨_, rfl⟩
  rw [hW] at hB1 k1
  have hk1 := hid (fun u (hu : Below W.heap.size W u) => cells5m (hs_keep k1 hu))
  have hB := hid hB1
  have b2 := hg.nonts
  have b4 := hg.prods
  have hKp : Hid (∀ u, Below w.heap.size w u → ∀ k (hk : k < g.prods.length), ∃ b o q1 q3, pa = some ⟨b, o, none⟩ ∧ u.cell? ⟨b, o + k * 3, none⟩ = some (.int .i64 g.prods[k].left) ∧ u.cell? ⟨b, o + k * 3 + 1, none⟩ = some (.slice q1 g.prods[k].right.length q3) ∧ ∀ j (hj : j < g.prods[k].right.length), ∃ b2 o2, q1 = some ⟨b2, o2, none⟩ ∧ u.cell? ⟨b2, o2 + j, none⟩ = some (.int .i64 g.prods[k].right[j])) := hid (fun u hu k hk => by
    obtain ⟨b, o, e, -, hx⟩ := (hV.keep hu).prods.at hk
    obtain ⟨v, x0, x1, x2, hN⟩ := hx
    have hN2 := hN
    obtain ⟨q1, q3, rfl, _, _, hat⟩ := hN2
    refine ⟨b, o, q1, q3, e, x0, x1, fun j hj => ?_⟩
    obtain ⟨b2, o2, e2, -, hc⟩ := hat j hj
    exact ⟨b2, o2, e2, hc⟩)
  have GT := hid (fun u (hu : Below w.heap.size w u) => refTermsC _ _ _ _ g u (hV.keep hu) (by have := hb.rules; omega))
  have hrl := hid (fun k (hk : k < g.prods.length) => (hb.right _ (List.getElem_mem hk)))
  have q0 : Hid (∀ r, enQ g r 0 = enN g r) := hid (fun r => rfl)
  have q1 : Hid (∀ r, enN g (r + 1) = enQ g r g.prods.length) := hid (fun r => by unfold enQ; rw [List.take_length]; rfl)
  have t0 : Hid (∀ o i, enB g o i 0 = true) := hid (fun o i => rfl)
  have t1 : Hid (∀ r i (hi : i < g.prods.length), enQ g r (i + 1) = if (enB g (enQ g r i) i g.prods[i].right.length && !(enQ g r i).contains g.prods[i].left) = true then enQ g r i ++ [g.prods[i].left] else enQ g r i) := hid (fun r i hi => by
    rw [← enP_eq g _ hi]
    unfold enQ
    rw [foldl_take _ _ _ hi])
  have t2 : Hid (∀ o i k (hi : i < g.prods.length) (hk : k < g.prods[i].right.length), enB g o i (k + 1) = (enB g o i k && (decide (g.prods[i].right[k] ≤ (g.terms : Int)) || o.contains g.prods[i].right[k]))) := hid (fun o i k hi hk => by
    unfold enB
    rw [List.getD_eq_getElem?_getD, List.getElem?_eq_getElem hi, Option.getD_some, List.take_add_one, List.getElem?_eq_getElem hk, Option.toList_some, List.all_append]
    simp)
  have lQ := hid (fun r i => (enQ_good g r i).len hg)
  have lN := hid (fun r => (enN_good g r).len hg)
  have hst : Hid (enN g 0 = []) := hid rfl
  clear hV hB1 k1 hb hg
  obtain ⟨nn, hnn⟩ : ∃ n, Hid (g.nonts.length = n) := ⟨_, hid rfl⟩
  obtain ⟨pp, hpp⟩ : ∃ n, Hid (g.prods.length = n) := ⟨_, hid rfl⟩
  rw [hnn.out] at b2 hk1 GT hW ⊢
  rw [hpp.out] at b4 hk1 GT hW q1 ⊢
  generalize enN g = FN at *
  generalize enQ g = FQ at *
  generalize enB g = FB at *
  generalize g.terms = tm at *
  generalize g.rules.length = rn at *
  generalize g.levels.length = ll at *
  generalize g.start = st at *
  obtain ⟨y0, y1, y2, y3, y4⟩ := hk1.out W (Below.refl _ _)
  have G0 := hid (GT.out W hB.out)
  go_enter Tryz.func19, Tryz.ntmps19
  go_wp2_with (go_at_call 20; refine G0.out.mono ?_; clear G0; rintro e w1 ⟨rfl, hc1⟩; obtain ⟨x0, x1, x2, x3, x4⟩ := hk1.out w1 hc1; have hb0 := hid hc1; clear hc1)
  have hO0 : Hid (Own w1 W.heap.size (.slice none 0 0) (FN 0)) := hid (by rw [hst.out]; exact World.ownsRow_nil _ _ _ _)
  clear hW y0 y1 y2 y3 y4 hst GT x0 x1 x2 x3 x4
  go_loopw [4, 5] (fun v i wr => ∃ r : Nat, r ≤ nn + 1 ∧ i = .int .i64 (r : Int) ∧ Hid (Own wr W.heap.size v (FN r)) ∧ Hid (Below W.heap.size W wr)) (fun _ i _ => nn + 1 - (intOf i).toNat)
  case atStart => exact ⟨0, Nat.zero_le _, rfl, hO0, hb0⟩
  case round =>
    clear hO0 hb0
    obtain ⟨r, hr, rfl, hO, hbl⟩ := hrel
    obtain ⟨y0, y1, y2, y3, y4⟩ := hk1.out wr hbl.out
    by_cases hlt : r ≤ nn
    · have hltz : (r : Int) ≤ (nn : Int) := by omega
      have hO1 := hid hO.out
      rw [← q0.out] at hO1
      clear hO
      go_wp2
      clear y0 y1 y2 y3 y4 hltz
      go_loopw [4, 6] (fun v i wr => ∃ i' : Nat, i' ≤ pp ∧ i = .int .i64 (i' : Int) ∧ Hid (Own wr W.heap.size v (FQ r i')) ∧ Hid (Below W.heap.size W wr)) (fun _ i _ => pp - (intOf i).toNat)
      case atStart => exact ⟨0, Nat.zero_le _, rfl, hO1, hbl⟩
      case round =>
        clear hO1 hbl
        obtain ⟨i, hi, rfl, hO, hbl⟩ := hrel
        obtain ⟨y0, y1, y2, y3, y4⟩ := hk1.out wr hbl.out
        by_cases hli : i < pp
        · have hliz : (i : Int) < (pp : Int) := by omega
          have hil : i < g.prods.length := by rw [hpp.out]; exact hli
          have hE := hid (t1.out r i hil)
          have hS := hid (fun k hk => t2.out (FQ r i) i k hil hk)
          have hS0 := hid (t0.out (FQ r i) i)
          have hL := lQ.out r i
          have hP := hid (fun u hu => hKp.out u hu i hil)
          have hR8 := hrl.out i hil
          go_wp2
          clear y0 y1 y2 y3 y4
          obtain ⟨rl, hrlH⟩ : ∃ n, Hid (g.prods[i].right.length = n) := ⟨_, hid rfl⟩
          rw [hrlH.out] at hE hR8
          go_loopw [7, 8] (fun x i' wr => ∃ k : Nat, k ≤ rl ∧ i' = .int .i64 (k : Int) ∧ x = .bool (FB (FQ r i) i k) ∧ Hid (Own wr W.heap.size u4 (FQ r i)) ∧ Hid (Below W.heap.size W wr)) (fun _ i' _ => rl - (intOf i').toNat)
          case atStart => exact ⟨0, Nat.zero_le _, rfl, by rw [hS0.out], hO, hbl⟩
          case round =>
            clear hO hbl
            obtain ⟨k, hk, rfl, rfl, hO, hbl⟩ := hrel
            obtain ⟨y0, y1, y2, y3, y4⟩ := hk1.out wr hbl.out
            obtain ⟨b, o, z1, z3, e, x0, x1, hat⟩ := hP.out wr (bl_step hB.out hbl.out)
            subst e
            rw [hrlH.out] at x1
            by_cases hlk : k < rl
            · have hlkz : (k : Int) < (rl : Int) := by omega
              have hkl : k < g.prods[i].right.length := by rw [hrlH.out]; exact hlk
              obtain ⟨b2, o2, e2, x2⟩ := hat k hkl
              subst e2
              have hs := hS.out k hkl
              have G2 := hid (numHas _ (FQ r i) g.prods[i].right[k] wr (by omega) (Nums.of_row hO.out))
              clear hat
              generalize g.prods[i].right[k] = x at *
              generalize hc2 : (FQ r i).contains x = cc2 at *
              clear hc2
              generalize hfb : FB (FQ r i) i k = fb at *
              clear hfb
              cases fb with
              | false =>
                rw [Bool.false_and] at hs
                have hs := hid hs
                clear G2
                go_wp2
                go_roundw
                case rel => exact ⟨k + 1, by omega, by go_num, by rw [hs.out], hO, hbl⟩
                case measure => simp [intOf]; omega
              | true =>
                by_cases a1 : x ≤ (tm : Int)
                · have a1b : decide (x ≤ (tm : Int)) = true := decide_eq_true a1
                  clear a1
                  rw [a1b, Bool.true_or, Bool.true_and] at hs
                  have hs := hid hs
                  clear G2
                  go_wp2
                  go_roundw
                  case rel => exact ⟨k + 1, by omega, by go_num, by rw [hs.out], hO, hbl⟩
                  case measure => simp [intOf]; omega
                · have a1b : decide (x ≤ (tm : Int)) = false := decide_eq_false a1
                  clear a1
                  rw [a1b, Bool.false_or, Bool.true_and] at hs
                  have hs := hid hs
                  go_wp2_with (go_at_call 21; refine G2.out.mono ?_; clear G2; rintro e w3 ⟨rfl, hc3⟩; subst w3)
                  go_roundw
                  case rel => exact ⟨k + 1, by omega, by go_num, by rw [hs.out], hO, hbl⟩
                  case measure => simp [intOf]; omega
            · have hlkz : ¬ (k : Int) < (rl : Int) := by omega
              obtain rfl : k = rl := by omega
              have hs := hE.out
              have G1 := hid (numHas _ (FQ r i) g.prods[i].left wr (by omega) (Nums.of_row hO.out))
              clear hat
              generalize g.prods[i].left = xl at *
              generalize hc1 : (FQ r i).contains xl = cc1 at *
              clear hc1
              generalize hfb : FB (FQ r i) i k = fb at *
              clear hfb
              cases fb with
              | false =>
                rw [Bool.false_and, if_neg (by decide)] at hs
                have hO9 := hid hO.out
                rw [← hs] at hO9
                clear hs hO G1
                go_wp2
                go_roundw
                case rel => exact ⟨i + 1, by omega, by go_num, hO9, hbl⟩
                case measure => simp [intOf]; omega
              | true =>
                cases cc1 with
                | true =>
                  rw [Bool.true_and, Bool.not_true, if_neg (by decide)] at hs
                  have hO9 := hid hO.out
                  rw [← hs] at hO9
                  clear hs hO
                  go_wp2_with (go_at_call 21; refine G1.out.mono ?_; clear G1; rintro e w3 ⟨rfl, hc3⟩; subst w3)
                  go_roundw
                  case rel => exact ⟨i + 1, by omega, by go_num, hO9, hbl⟩
                  case measure => simp [intOf]; omega
                | false =>
                  rw [Bool.true_and, Bool.not_false, if_pos rfl] at hs
                  have hs := hid hs
                  have hal := al' wr (.cells #[.int .i64 xl] 3)
                  have hOa := hid (own_below hO.out hal)
                  have hDa := hid (Nums.of_row (Own.lit1 wr xl))
                  have hBa := hid (bl_step hbl.out hal)
                  clear hO hal
                  go_wp2_with (first
                    | (go_at_call 21; refine G1.out.mono ?_; clear G1; rintro e w3 ⟨rfl, hc3⟩; subst w3)
                    | (at_builtin; refine wp_app _ rfl _ _ rfl W.heap.size (FQ r i) [xl] _ _ rfl rfl hOa.out hDa.out (by simp; omega) hBa.out.size ?_; intro v4 w4 hO4 hb4; have hO9 := hid hO4; have hb9 := hid (hBa.out.trans hb4); clear hO4 hb4))
                  go_roundw
                  case rel => exact ⟨i + 1, by omega, by go_num, hid (by rw [hs.out]; exact hO9.out), hb9⟩
                  case measure => simp [intOf]; omega
        · have hliz : ¬ (i : Int) < (pp : Int) := by omega
          obtain rfl : i = pp := by omega
          have hO9 := hid hO.out
          rw [← q1.out] at hO9
          clear hO
          go_wp2
          go_roundw
          case rel => exact ⟨r + 1, by omega, by go_num, hO9, hbl⟩
          case measure => simp [intOf]; omega
    · have hltz : ¬ (r : Int) ≤ (nn : Int) := by omega
      obtain rfl : r = nn + 1 := by omega
      have hl9 := lN.out (nn + 1)
      have G := hid (refOf _ (FN (nn + 1)) wr (by omega) (Nums.of_row hO.out))
      clear hO
      go_wp2_with (go_at_call 41; refine G.out.mono ?_; clear G; rintro e w5 ⟨v5, rfl, hO5, hc5⟩; have hO5 := hid hO5; have hc5 := hid hc5)
      go_ret
      exact ⟨_, rfl, ⟨_, hO5.out⟩, bl_step hB.out (bl_step hbl.out hc5.out)⟩

end Go.Proofs.YthgbjhnknepefaaGreat
