/- The contract of topiaryref04.Of: the least one that isn't told yet, again and again; of topiaryref04.Is. The contracts of topiaryref04.Union, Both, Less. A rule's spots as lists. -/
import Derived.Test.YtlpbeieljjgbaaaGreatDoorJ12
import Derived.Test.YtlpbeieljjgbaaaGreatDoorJ11
namespace Go.Proofs.YtlpbeieljjgbaaaGreatDoor
open Go.RowKit

def Abv (out : List Int) (x : Int) : Prop := ∀ y ∈ out, y < x
structure Pre (out l : List Int) : Prop where
  up : Up out
  sub : ∀ x ∈ out, x ∈ l
  all : ∀ x ∈ l, x ∈ out ∨ Abv out x
structure Low (out l : List Int) (k : Nat) (f : Bool) (m : Int) : Prop where
  no : f = false → ∀ x ∈ l.take k, ¬ Abv out x
  yes : f = true → m ∈ l ∧ Abv out m ∧ ∀ x ∈ l.take k, Abv out x → m ≤ x

theorem Pre.start (l : List Int) : Pre [] l := ⟨List.Pairwise.nil, fun _ h => absurd h (List.not_mem_nil), fun _ _ => Or.inr fun _ h => absurd h (List.not_mem_nil)⟩
theorem Low.start (out l : List Int) : Low out l 0 false 0 := ⟨fun _ x h => absurd h (by simp), fun h => by cases h⟩
theorem abv_nil (x : Int) : Abv [] x := fun _ h => absurd h (List.not_mem_nil)
theorem abv_last {out : List Int} {p : Nat} (hu : Up out) (hp : p < out.length) (hp1 : out.length = p + 1) (x : Int) : Abv out x ↔ out[p] < x := by
  constructor
  · intro h; exact h _ (List.getElem_mem hp)
  · intro h y hy
    obtain ⟨i, hi, rfl⟩ := List.mem_iff_getElem.1 hy
    by_cases e : i = p
    · subst e; exact h
    · have := List.pairwise_iff_getElem.1 hu i p hi hp (by omega)
      omega
theorem mem_take_succ {l : List Int} {k : Nat} (h : k < l.length) (x : Int) : x ∈ l.take (k + 1) ↔ x ∈ l.take k ∨ x = l[k] := by
  rw [List.take_succ_eq_append_getElem h, List.mem_append, List.mem_singleton]
theorem Low.skip {out l : List Int} {k : Nat} {f : Bool} {m : Int} (h : Low out l k f m) (hk : k < l.length) (ha : ¬ Abv out l[k]) : Low out l (k + 1) f m :=
  ⟨fun hf x hx => by
    rcases (mem_take_succ hk x).1 hx with hx | rfl
    · exact h.no hf x hx
    · exact ha,
   fun hf => ⟨(h.yes hf).1, (h.yes hf).2.1, fun x hx hax => by
    rcases (mem_take_succ hk x).1 hx with hx | rfl
    · exact (h.yes hf).2.2 x hx hax
    · exact absurd hax ha⟩⟩
theorem Low.first {out l : List Int} {k : Nat} {m : Int} (h : Low out l k false m) (hk : k < l.length) (ha : Abv out l[k]) : Low out l (k + 1) true l[k] :=
  ⟨fun hf => (by cases hf), fun _ => ⟨List.getElem_mem hk, ha, fun x hx hax => by
    rcases (mem_take_succ hk x).1 hx with hx | rfl
    · exact absurd hax (h.no rfl x hx)
    · exact Int.le_refl _⟩⟩
theorem Low.less {out l : List Int} {k : Nat} {m : Int} (h : Low out l k true m) (hk : k < l.length) (ha : Abv out l[k]) (hm : l[k] < m) : Low out l (k + 1) true l[k] :=
  ⟨fun hf => (by cases hf), fun _ => ⟨List.getElem_mem hk, ha, fun x hx hax => by
    rcases (mem_take_succ hk x).1 hx with hx | rfl
    · have := (h.yes rfl).2.2 x hx hax; omega
    · exact Int.le_refl _⟩⟩
theorem Low.stay {out l : List Int} {k : Nat} {m : Int} (h : Low out l k true m) (hk : k < l.length) (hm : ¬ l[k] < m) : Low out l (k + 1) true m :=
  ⟨fun hf => (by cases hf), fun _ => ⟨(h.yes rfl).1, (h.yes rfl).2.1, fun x hx hax => by
    rcases (mem_take_succ hk x).1 hx with hx | rfl
    · exact (h.yes rfl).2.2 x hx hax
    · omega⟩⟩
theorem Low.done {out l : List Int} {k : Nat} {m : Int} (h : Low out l k false m) (hk : ¬ k < l.length) (hp : Pre out l) : out = ofL l :=
  ofL_eq hp.up fun x => ⟨hp.sub x, fun hx => by
    rcases hp.all x hx with h1 | h1
    · exact h1
    · exact absurd h1 (h.no rfl x (by rwa [List.take_of_length_le (by omega)]))⟩
theorem Low.next {out l : List Int} {k : Nat} {m : Int} (h : Low out l k true m) (hk : ¬ k < l.length) (hp : Pre out l) : Pre (out ++ [m]) l := by
  obtain ⟨h1, h2, h3⟩ := h.yes rfl
  rw [List.take_of_length_le (by omega)] at h3
  refine ⟨List.pairwise_append.2 ⟨hp.up, List.pairwise_singleton _ _, fun y hy z hz => ?_⟩, fun x hx => ?_, fun x hx => ?_⟩
  · rw [List.mem_singleton] at hz; subst hz; exact h2 y hy
  · rcases List.mem_append.1 hx with hx | hx
    · exact hp.sub x hx
    · rw [List.mem_singleton] at hx; subst hx; exact h1
  · rcases hp.all x hx with e | e
    · exact Or.inl (List.mem_append_left _ e)
    · by_cases hxm : x = m
      · subst hxm; exact Or.inl (List.mem_append_right _ (List.mem_singleton.2 rfl))
      · refine Or.inr fun y hy => ?_
        rcases List.mem_append.1 hy with hy | hy
        · exact e y hy
        · rw [List.mem_singleton] at hy; subst hy
          have := h3 x hx e
          omega
theorem up_sub_len : ∀ {a b : List Int}, Up a → Up b → (∀ x ∈ a, x ∈ b) → a.length ≤ b.length
  | [], _, _, _, _ => Nat.zero_le _
  | x :: s, [], _, _, h => absurd (h x List.mem_cons_self) (List.not_mem_nil)
  | x :: s, y :: t, ha, hb, h => by
    rw [Up, List.pairwise_cons] at hb
    by_cases e : x = y
    · subst e
      rw [Up, List.pairwise_cons] at ha
      have := up_sub_len ha.2 hb.2 (fun z hz => by
        rcases List.mem_cons.1 (h z (List.mem_cons_of_mem _ hz)) with e | e
        · subst e; exact absurd (ha.1 _ hz) (by omega)
        · exact e)
      simp only [List.length_cons]; omega
    · have hx : x ∈ t := by
        rcases List.mem_cons.1 (h x List.mem_cons_self) with h1 | h1
        · exact absurd h1 e
        · exact h1
      have hyx := hb.1 x hx
      have := up_sub_len (a := x :: s) ha hb.2 (fun z hz => by
        rcases List.mem_cons.1 (h z hz) with h1 | h1
        · subst h1
          rcases List.mem_cons.1 hz with h2 | h2
          · omega
          · have := (List.pairwise_cons.1 ha).1 _ h2; omega
        · exact h1)
      simp only [List.length_cons] at this ⊢; omega
theorem Pre.len {out l : List Int} (h : Pre out l) : out.length ≤ l.length :=
  Nat.le_trans (up_sub_len h.up (ofL_up l) fun x hx => (ofL_mem x l).2 (h.sub x hx)) (ofL_len l)

def sliceLen : Value → Nat
  | .slice _ n _ => n
  | _ => 0
theorem own_len {w : World} {B : Nat} {v : Value} {l : List Int} (h : Own w B v l) : sliceLen v = l.length := by
  obtain ⟨a, cap, rfl, _⟩ := Nums.of_row h
  rfl


set_option maxRecDepth 20000 in
set_option maxHeartbeats 4000000 in
theorem refOf (v : Value) (l : List Int) (w : World) (hl : l.length ≤ 1000000) (hA : Nums w v l) :
    Calls Tryz.prog 50 #[v] w fun e w' => ∃ v', e = .returned v' ∧ Own w' w.heap.size v' (ofL l) ∧ Below w.heap.size w w' := by
  obtain ⟨aa, ca, rfl, _, _, hA⟩ := hA
  have hA0 := hid hA
  clear hA
  go_enter Tryz.func50, Tryz.ntmps50
  go_wp2
  go_loopw [3] (fun v wr => ∃ out, Own wr w.heap.size v out ∧ Hid (Pre out l) ∧ Below w.heap.size w wr) (fun v _ => l.length - sliceLen v)
  case atStart => exact ⟨[], World.ownsRow_nil _ _ _ _, hid (Pre.start l), Below.refl _ w⟩
  case round =>
    obtain ⟨out, hO0, hpre, hbl0⟩ := hrel
    have hlen := own_len hO0
    obtain ⟨ao, co, rfl, hN1⟩ := id (Nums.of_row hO0)
    clear hN1
    have hO0' := hid hO0
    clear hO0
    go_wp2
    go_loopw [4, 5, 6] (fun f m i wr => ∃ (k : Nat) (fb : Bool) (mz : Int), k ≤ l.length ∧ f = .bool fb ∧ m = .int .i64 mz ∧ i = .int .i64 k ∧ Hid (Low out l k fb mz) ∧ Hid (Own wr w.heap.size (.slice ao out.length co) out) ∧ Below w.heap.size w wr) (fun _ _ i _ => l.length - (intOf i).toNat)
    case atStart => exact ⟨0, false, 0, Nat.zero_le _, rfl, rfl, rfl, hid (Low.start out l), hO0', hbl0⟩
    case round =>
      obtain ⟨k, fb, mz, hk, rfl, rfl, rfl, hlow, hO, hbl⟩ := hrel
      by_cases hlt : k < l.length
      · have hltz : (k : Int) < (l.length : Int) := by omega
        obtain ⟨b1, o1, rfl, hb1, hc1⟩ := hA0.out k hlt
        have hd1 := (hbl.cell hb1).trans hc1
        clear hc1
        by_cases h0 : out.length = 0
        · have hz : ((out.length : Int) == 0) = true := beq_iff_eq.2 (by omega)
          have ha : Abv out l[k] := by rw [List.length_eq_zero_iff.1 h0]; exact abv_nil _
          clear h0
          cases fb with
          | false =>
            have hlow' := hid (hlow.out.first hlt ha)
            clear ha
            generalize l[k] = x at hd1 hlow'
            go_wp2_with fail
            go_quiet (fail)
            go_wp2
            go_roundw
            case rel => exact ⟨k + 1, true, _, by omega, rfl, rfl, by go_num, hlow', hid (own_below hO.out (belowN (Below.refl _ wr))), belowN hbl⟩
            case measure => simp [intOf]; omega
          | true =>
            by_cases hm : l[k] < mz
            · have hlow' := hid (hlow.out.less hlt ha hm)
              clear ha
              generalize l[k] = x at hd1 hlow' hm
              go_wp2_with fail
              go_quiet (fail)
              go_wp2
              go_roundw
              case rel => exact ⟨k + 1, true, _, by omega, rfl, rfl, by go_num, hlow', hid (own_below hO.out (belowN (Below.refl _ wr))), belowN hbl⟩
              case measure => simp [intOf]; omega
            · have hlow' := hid (hlow.out.stay hlt hm)
              clear ha
              generalize l[k] = x at hd1 hm
              go_wp2_with fail
              go_quiet (fail)
              go_wp2
              go_roundw
              case rel => exact ⟨k + 1, true, _, by omega, rfl, rfl, by go_num, hlow', hid (own_below hO.out (belowN (Below.refl _ wr))), belowN hbl⟩
              case measure => simp [intOf]; omega
        · have hz : ((out.length : Int) == 0) = false := beq_eq_false_iff_ne.2 (by omega)
          obtain ⟨p, hp⟩ : ∃ p, out.length = p + 1 := ⟨out.length - 1, by omega⟩
          have hpl : p < out.length := by omega
          have hpz : (p : Int) < (out.length : Int) := by omega
          have hw : IntKind.i64.wrap ((out.length : Int) - 1) = (p : Int) := by have := hpre.out.len; rw [IntKind.wrap_i64]; omega
          have hal := abv_last hpre.out.up hpl hp l[k]
          obtain ⟨b2, o2, co2, e2, hcap2, hb2, hc2⟩ := (Nums.of_row hO.out).at (by omega)
          injection e2 with e2 e3 e4; subst e2; subst e4
          have hd2 := hc2 p hpl
          clear hc2 hp h0
          by_cases hy : out[p] < l[k]
          · have ha := hal.2 hy
            have hy' := hy
            clear hal hy
            generalize out[p] = y at hd2 hy'
            cases fb with
            | false =>
              have hlow' := hid (hlow.out.first hlt ha)
              clear ha
              generalize l[k] = x at hd1 hlow' hy'
              go_wp2_with fail
              go_quiet (fail)
              go_wp2
              go_roundw
              case rel => exact ⟨k + 1, true, _, by omega, rfl, rfl, by go_num, hlow', hid (own_below hO.out (belowN (Below.refl _ wr))), belowN hbl⟩
              case measure => simp [intOf]; omega
            | true =>
              by_cases hm : l[k] < mz
              · have hlow' := hid (hlow.out.less hlt ha hm)
                clear ha
                generalize l[k] = x at hd1 hlow' hm hy'
                go_wp2_with fail
                go_quiet (fail)
                go_wp2
                go_roundw
                case rel => exact ⟨k + 1, true, _, by omega, rfl, rfl, by go_num, hlow', hid (own_below hO.out (belowN (Below.refl _ wr))), belowN hbl⟩
                case measure => simp [intOf]; omega
              · have hlow' := hid (hlow.out.stay hlt hm)
                clear ha
                generalize l[k] = x at hd1 hm hy'
                go_wp2_with fail
                go_quiet (fail)
                go_wp2
                go_roundw
                case rel => exact ⟨k + 1, true, _, by omega, rfl, rfl, by go_num, hlow', hid (own_below hO.out (belowN (Below.refl _ wr))), belowN hbl⟩
                case measure => simp [intOf]; omega
          · have hna : ¬ Abv out l[k] := fun h => hy (hal.1 h)
            have hlow' := hid (hlow.out.skip hlt hna)
            clear hal hna
            generalize out[p] = y at hd2 hy
            generalize l[k] = x at hd1 hy
            go_wp2_with fail
            go_quiet (fail)
            go_wp2
            go_roundw
            case rel => exact ⟨k + 1, fb, mz, by omega, rfl, rfl, by go_num, hlow', hid (own_below hO.out (belowN (Below.refl _ wr))), belowN hbl⟩
            case measure => simp [intOf]; omega
      · have hltz : ¬ (k : Int) < (l.length : Int) := by omega
        cases fb with
        | false =>
          have hres := hid (hlow.out.done hlt hpre.out)
          go_wp2
          go_ret
          exact ⟨_, rfl, by rw [← hres.out]; exact hO.out, hbl⟩
        | true =>
          have hpre' := hid (hlow.out.next hlt hpre.out)
          have hlen' := hpre'.out.len
          rw [List.length_append] at hlen'
          have hsz := hbl.size
          have hlen1 : out.length < l.length := by simp at hlen'; omega
          go_wp2_with (at_builtin; refine wp_app _ rfl _ _ rfl w.heap.size out [mz] _ _ rfl rfl (hO.out.alloc _) (Nums.of_row (Own.lit1 _ _)) (by simp; omega) (by simp; omega) ?_; intro v' w2 hO2 hb2)
          go_wp2
          go_roundw
          case rel => exact ⟨_, hO2, hpre', (hbl.alloc hsz _).trans hb2⟩
          case measure =>
            have e1 := own_len hO2
            rw [List.length_append] at e1
            simp [e1, hlen]
            omega

end Go.Proofs.YtlpbeieljjgbaaaGreatDoor
namespace Go.Proofs.YtlpbeieljjgbaaaGreatDoor
open Go.RowKit

theorem Nums.lit1 (u : World) (a : Int) : Nums (u.alloc (.cells #[.int .i64 a] 3)) (.slice (some ⟨u.heap.size, 0, none⟩) 1 1) [a] := Nums.of_row (Own.lit1 u a)
set_option maxRecDepth 20000 in
theorem numHas (v : Value) (l : List Int) (n : Int) (w : World) (hl : l.length ≤ 1000000) (hA : Nums w v l) :
    Calls Tryz.prog 57 #[v, .int .i64 n] w fun e w' => e = .returned (.bool (l.contains n)) ∧ w' = w := by
  obtain ⟨aa, ca, rfl, _, _, hA⟩ := hA
  obtain ⟨r, hr⟩ : ∃ r, Hid (l.contains n = r) := ⟨_, hid rfl⟩
  rw [show l.contains n = r from hr.out]
  go_enter Tryz.func57, Tryz.ntmps57
  go_wp2
  go_loop [5] (fun i => ∃ k : Nat, k ≤ l.length ∧ i = .int .i64 k ∧ ¬ n ∈ l.take k) (fun i => l.length - (intOf i).toNat)
  case atStart => exact ⟨0, Nat.zero_le _, rfl, by simp⟩
  case round =>
    obtain ⟨k, hk, rfl, hn⟩ := hrel
    by_cases hlt : k < l.length
    · have hltz : (k : Int) < (l.length : Int) := by omega
      obtain ⟨b1, o1, rfl, hb1, hc1⟩ := hA k hlt
      clear hA
      by_cases h : l[k] = n
      · have hres : r = true := by rw [← hr.out]; rw [List.contains_iff_mem, ← h]; exact List.getElem_mem hlt
        have hb : (l[k] == n) = true := beq_iff_eq.2 h
        generalize l[k] = x at hc1 hb
        clear h hn
        go_wp2
        go_ret
        exact ⟨by first | rfl | (rw [hres]; rfl), rfl⟩
      · have hn' : ¬ n ∈ l.take (k + 1) := by
          rw [List.take_succ_eq_append_getElem hlt, List.mem_append, List.mem_singleton]
          rintro (e | e)
          · exact hn e
          · exact h e.symm
        have hb : (l[k] == n) = false := beq_eq_false_iff_ne.2 h
        generalize l[k] = x at hc1 hb
        clear h hn
        go_wp2
        go_round
        case rel => exact ⟨k + 1, by omega, by go_num, hn'⟩
        case measure => simp [intOf]; omega
    · have hltz : ¬ (k : Int) < (l.length : Int) := by omega
      have hres : r = false := by
        rw [← hr.out]
        rw [List.take_of_length_le (by omega)] at hn
        rw [← Bool.not_eq_true, List.contains_iff_mem]; exact hn
      clear hA hn
      go_wp2
      go_ret
      exact ⟨by first | rfl | (rw [hres]; rfl), rfl⟩

set_option maxRecDepth 20000 in
set_option maxHeartbeats 1000000 in
theorem refUnion (va vb : Value) (la lb : List Int) (w : World) (hla : la.length ≤ 100000) (hlb : lb.length ≤ 100000) (hA : Nums w va la) (hB : Nums w vb lb) :
    Calls Tryz.prog 54 #[va, vb] w fun e w' => ∃ v', e = .returned v' ∧ Own w' w.heap.size v' (unionL la lb) ∧ Below w.heap.size w w' := by
  have G1 : Hid (∀ v u, Nums u v (la ++ lb) → Calls Tryz.prog 50 #[v] u fun e w' => ∃ v', e = .returned v' ∧ Own w' u.heap.size v' (unionL la lb) ∧ Below u.heap.size u w') := fun v u h => refOf v _ u (by rw [List.length_append]; omega) h
  have hA0 := hid hA
  have hB0 := hid hB
  have hN := hid (World.ownsRow_nil w w.heap.size 3 1)
  clear hA hB
  go_enter Tryz.func54, Tryz.ntmps54
  go_wp2_with (first
    | (at_builtin; refine wp_app _ rfl _ _ rfl w.heap.size la lb _ _ rfl rfl hO1 (hB0.out.keep hb1) (by omega) hb1.size ?_; intro v2 w2 hO2 hb2)
    | (at_builtin; refine wp_app _ rfl _ _ rfl w.heap.size [] la _ _ rfl rfl hN.out hA0.out (by simp; omega) (Nat.le_refl _) ?_; intro v1 w1 hO1 hb1)
    | (go_at_call 50; refine (G1.out _ _ (Nums.of_row hO2)).mono ?_; rintro e w3 ⟨v3, rfl, hO3, hb3⟩))
  go_ret
  exact ⟨_, rfl, own_base hO3 (hb1.trans hb2).size, bl_step (hb1.trans hb2) hb3⟩

end Go.Proofs.YtlpbeieljjgbaaaGreatDoor
namespace Go.Proofs.YtlpbeieljjgbaaaGreatDoor
open Go.RowKit

/-- how many of the cells are spots -/
def numS (l : List Cel) : Nat := l.countP fun c => c.op == 1
theorem numS_app (l m : List Cel) : numS (l ++ m) = numS l + numS m := List.countP_append
theorem numS_le (l : List Cel) : numS l ≤ l.length := List.countP_le_length
theorem numS_post : ∀ t : Rx, numS (post t) = nSets t
  | .set _ => rfl
  | .eps => rfl
  | .cat a b => by simp only [post, numS_app, numS_post a, numS_post b, nSets]; rfl
  | .or a b => by simp only [post, numS_app, numS_post a, numS_post b, nSets]; rfl
  | .star a => by simp only [post, numS_app, numS_post a, nSets]; rfl
  | .plus a => by simp only [post, numS_app, numS_post a, nSets]; rfl
  | .opt a => by simp only [post, numS_app, numS_post a, nSets]; rfl
theorem numS_take (l : List Cel) (k : Nat) (h : k < l.length) : numS (l.take (k + 1)) = numS (l.take k) + (if l[k].op = 1 then 1 else 0) := by
  rw [List.take_succ_eq_append_getElem h, numS_app]
  congr 1
  unfold numS
  rw [List.countP_cons, List.countP_nil]
  simp
/-- the spots with which a way begins, and ends -/
def firstL : Rx → Nat → List Int
  | .set _, n => [(n : Int)]
  | .eps, _ => []
  | .cat a b, n => if a.null then unionL (firstL a n) (firstL b (n + nSets a)) else firstL a n
  | .or a b, n => unionL (firstL a n) (firstL b (n + nSets a))
  | .star a, n => firstL a n
  | .plus a, n => firstL a n
  | .opt a, n => firstL a n
def lastL : Rx → Nat → List Int
  | .set _, n => [(n : Int)]
  | .eps, _ => []
  | .cat a b, n => if b.null then unionL (lastL b (n + nSets a)) (lastL a n) else lastL b (n + nSets a)
  | .or a b, n => unionL (lastL a n) (lastL b (n + nSets a))
  | .star a, n => lastL a n
  | .plus a, n => lastL a n
  | .opt a, n => lastL a n
theorem firstL_len : ∀ (t : Rx) (n : Nat), (firstL t n).length ≤ nSets t
  | .set _, _ => Nat.le_refl _
  | .eps, _ => Nat.le_refl _
  | .cat a b, n => by
    have h1 := firstL_len a n
    have h2 := firstL_len b (n + nSets a)
    have h3 := unionL_len (firstL a n) (firstL b (n + nSets a))
    show (firstL (.cat a b) n).length ≤ nSets a + nSets b
    rw [firstL]
    split <;> omega
  | .or a b, n => by
    have h1 := firstL_len a n
    have h2 := firstL_len b (n + nSets a)
    have h3 := unionL_len (firstL a n) (firstL b (n + nSets a))
    show (unionL (firstL a n) (firstL b (n + nSets a))).length ≤ nSets a + nSets b
    omega
  | .star a, n => firstL_len a n
  | .plus a, n => firstL_len a n
  | .opt a, n => firstL_len a n
theorem lastL_len : ∀ (t : Rx) (n : Nat), (lastL t n).length ≤ nSets t
  | .set _, _ => Nat.le_refl _
  | .eps, _ => Nat.le_refl _
  | .cat a b, n => by
    have h1 := lastL_len a n
    have h2 := lastL_len b (n + nSets a)
    have h3 := unionL_len (lastL b (n + nSets a)) (lastL a n)
    show (lastL (.cat a b) n).length ≤ nSets a + nSets b
    rw [lastL]
    split <;> omega
  | .or a b, n => by
    have h1 := lastL_len a n
    have h2 := lastL_len b (n + nSets a)
    have h3 := unionL_len (lastL a n) (lastL b (n + nSets a))
    show (unionL (lastL a n) (lastL b (n + nSets a))).length ≤ nSets a + nSets b
    omega
  | .star a, n => lastL_len a n
  | .plus a, n => lastL_len a n
  | .opt a, n => lastL_len a n
theorem nSets_le : ∀ t : Rx, nSets t ≤ (post t).length := fun t => by rw [← numS_post]; exact numS_le _
theorem firstL_up : ∀ (t : Rx) (n : Nat), Up (firstL t n)
  | .set _, _ => List.pairwise_singleton _ _
  | .eps, _ => List.Pairwise.nil
  | .cat a b, n => by
    unfold firstL
    split
    · exact ofL_up _
    · exact firstL_up a n
  | .or _ _, _ => ofL_up _
  | .star a, n => firstL_up a n
  | .plus a, n => firstL_up a n
  | .opt a, n => firstL_up a n
theorem lastL_up : ∀ (t : Rx) (n : Nat), Up (lastL t n)
  | .set _, _ => List.pairwise_singleton _ _
  | .eps, _ => List.Pairwise.nil
  | .cat a b, n => by
    unfold lastL
    split
    · exact ofL_up _
    · exact lastL_up b _
  | .or _ _, _ => ofL_up _
  | .star a, n => lastL_up a n
  | .plus a, n => lastL_up a n
  | .opt a, n => lastL_up a n
theorem firstL_mem : ∀ (t : Rx) (n : Nat) (x : Int), x ∈ firstL t n ↔ ∃ k : Nat, x = (k : Int) ∧ Fst t n k
  | .set S, n, x => by simp [firstL, Fst]
  | .eps, n, x => by simp [firstL, Fst]
  | .cat a b, n, x => by
    simp only [firstL, Fst]
    split
    · rename_i h
      rw [unionL_mem, firstL_mem a n x, firstL_mem b _ x]
      constructor
      · rintro (⟨k, h1, h2⟩ | ⟨k, h1, h2⟩)
        · exact ⟨k, h1, Or.inl h2⟩
        · exact ⟨k, h1, Or.inr ⟨h, h2⟩⟩
      · rintro ⟨k, h1, h2 | h2⟩
        · exact Or.inl ⟨k, h1, h2⟩
        · exact Or.inr ⟨k, h1, h2.2⟩
    · rename_i h
      rw [firstL_mem a n x]
      simp [h]
  | .or a b, n, x => by
    simp only [firstL, Fst]
    rw [unionL_mem, firstL_mem a n x, firstL_mem b _ x]
    constructor
    · rintro (⟨k, h1, h2⟩ | ⟨k, h1, h2⟩)
      · exact ⟨k, h1, Or.inl h2⟩
      · exact ⟨k, h1, Or.inr h2⟩
    · rintro ⟨k, h1, h2 | h2⟩
      · exact Or.inl ⟨k, h1, h2⟩
      · exact Or.inr ⟨k, h1, h2⟩
  | .star a, n, x => firstL_mem a n x
  | .plus a, n, x => firstL_mem a n x
  | .opt a, n, x => firstL_mem a n x
theorem lastL_mem : ∀ (t : Rx) (n : Nat) (x : Int), x ∈ lastL t n ↔ ∃ k : Nat, x = (k : Int) ∧ Lst t n k
  | .set S, n, x => by simp [lastL, Lst]
  | .eps, n, x => by simp [lastL, Lst]
  | .cat a b, n, x => by
    simp only [lastL, Lst]
    split
    · rename_i h
      rw [unionL_mem, lastL_mem a n x, lastL_mem b _ x]
      constructor
      · rintro (⟨k, h1, h2⟩ | ⟨k, h1, h2⟩)
        · exact ⟨k, h1, Or.inl h2⟩
        · exact ⟨k, h1, Or.inr ⟨h, h2⟩⟩
      · rintro ⟨k, h1, h2 | h2⟩
        · exact Or.inl ⟨k, h1, h2⟩
        · exact Or.inr ⟨k, h1, h2.2⟩
    · rename_i h
      rw [lastL_mem b _ x]
      simp [h]
  | .or a b, n, x => by
    simp only [lastL, Lst]
    rw [unionL_mem, lastL_mem a n x, lastL_mem b _ x]
    constructor
    · rintro (⟨k, h1, h2⟩ | ⟨k, h1, h2⟩)
      · exact ⟨k, h1, Or.inl h2⟩
      · exact ⟨k, h1, Or.inr h2⟩
    · rintro ⟨k, h1, h2 | h2⟩
      · exact Or.inl ⟨k, h1, h2⟩
      · exact Or.inr ⟨k, h1, h2⟩
  | .star a, n, x => lastL_mem a n x
  | .plus a, n, x => lastL_mem a n x
  | .opt a, n, x => lastL_mem a n x

end Go.Proofs.YtlpbeieljjgbaaaGreatDoor
