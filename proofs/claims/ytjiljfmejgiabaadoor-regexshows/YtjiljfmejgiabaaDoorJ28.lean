/- What is asked of package regex; wakes; RegexShows. The reader: a cell is put down. -/
import Derived.Test.YtjiljfmejgiabaaDoorJ23
import Derived.Test.YtjiljfmejgiabaaDoorJ21
import Derived.Deep.AppendLies
import Derived.Deep.RegionLaw
namespace Go.Proofs.YtjiljfmejgiabaaDoor
open Go.RowKit

/-- the contracts of package regex, in worlds in which something holds -/
structure RegexOK (OK : World → Prop) : Prop where
  keep : ∀ (u u' : World), OK u → Below u.heap.size u u' → OK u'
  showNo : ∀ (v : Value) (l : List Cel) (u : World), Cels u v l → rightB l = false → OK u → Calls Tryd.prog 6 #[v] u fun e w' => e = .returned (.tuple #[.string ⟨#[]⟩, .int .i64 1]) ∧ Below u.heap.size u w'
  showYes : ∀ (v : Value) (t : Rx) (u : World), Cels u v (post t) → t.ok → (post t).length ≤ 60 → OK u → Calls Tryd.prog 6 #[v] u fun e w' => e = .returned (.tuple #[.string (strT (txt t)), .int .i64 0]) ∧ Below u.heap.size u w'
  long : ∀ (s : Txt) (u : World), 200 < s.length → OK u → Calls Tryd.prog 11 #[.string (strT s)] u fun e w' => ∃ a c, e = .returned (.tuple #[.slice a 0 c, .int .i64 0, .int .i64 3]) ∧ Below u.heap.size u w'
  bad : ∀ (s : Txt) (u : World), s.length ≤ 200 → (∀ t, rowsP s ≠ some (t, [])) → OK u → Calls Tryd.prog 11 #[.string (strT s)] u fun e w' => ∃ a c n, e = .returned (.tuple #[.slice a 0 c, .int .i64 n, .int .i64 1]) ∧ Below u.heap.size u w'
  full : ∀ (s : Txt) (t : Rx) (u : World), s.length ≤ 200 → rowsP s = some (t, []) → 60 < (post t).length → OK u → Calls Tryd.prog 11 #[.string (strT s)] u fun e w' => ∃ a c, e = .returned (.tuple #[.slice a 0 c, .int .i64 0, .int .i64 3]) ∧ Below u.heap.size u w'
  good : ∀ (s : Txt) (t : Rx) (u : World), s.length ≤ 200 → rowsP s = some (t, []) → (post t).length ≤ 60 → OK u → Calls Tryd.prog 11 #[.string (strT s)] u fun e w' => ∃ v, e = .returned (.tuple #[v, .int .i64 0, .int .i64 0]) ∧ Cels w' v (post t) ∧ Below u.heap.size u w'
  wake : ∀ (u : World), OK u → Calls Tryd.prog 11 #[.string ⟨#[40, 97]⟩] u fun e w' => ∃ a c, e = .returned (.tuple #[.slice a 0 c, .int .i64 2, .int .i64 1]) ∧ Below u.heap.size u w'

theorem Cels.shape {w : World} {v : Value} {l : List Cel} (h : Cels w v l) : ∃ a c, v = .slice a l.length c := by
  obtain ⟨a, c, e, _⟩ := h
  exact ⟨a, c, e⟩
def wakeT : Rx := .or (.set (spanB 97 97)) (.star (.set (spanB 98 98)))
theorem wake_reads : rowsP [97, 124, 98, 42] = some (wakeT, []) := by rfl

set_option maxHeartbeats 1000000 in
theorem wakesC {OK : World → Prop} (H : RegexOK OK) (w : World) (hw : OK w) : Calls Tryd.prog 9 #[] w fun e w' => e = .returned (.bool true) ∧ Below w.heap.size w w' := by
  have G1 : Hid (∀ u, OK u → Calls Tryd.prog 11 #[.string ⟨#[97, 124, 98, 42]⟩] u fun e w' => ∃ a c, e = .returned (.tuple #[.slice a 4 c, .int .i64 0, .int .i64 0]) ∧ Below u.heap.size u w') := hid (fun u hu => (H.good [97, 124, 98, 42] wakeT u (by decide) wake_reads (by decide) hu).mono fun e w' ⟨v, he, hc, hb⟩ => by
    obtain ⟨a, c, rfl⟩ := hc.shape
    exact ⟨a, c, he, hb⟩)
  have G2 := hid H.wake
  have HK := hid H.keep
  have hw0 := hid hw
  clear hw
  go_enter Tryd.func9, Tryd.ntmps9
  go_wp2_with (first
    | (go_at_call 11; refine (G2.out w1 k1.out).mono ?_; rintro e w2 ⟨a2, c2, rfl, hb2⟩)
    | (go_at_call 11; refine (G1.out w hw0.out).mono ?_; rintro e w1 ⟨a1, c1, rfl, hb1⟩; have k1 := hid (HK.out _ _ hw0.out hb1)))
  go_ret
  exact ⟨rfl, bl_step hb1 hb2⟩

set_option maxHeartbeats 2000000 in
theorem showsWalk {OK : World → Prop} (H : RegexOK OK) (v : Value) (l : List Cel) (w : World) (hl : l.length * 40 ≤ 140737488351232) (hA : Cels w v l) (hw : OK w) :
    Calls Tryd.prog 3 #[v] w fun e w' => e = .returned (.bool true) ∧ Below w.heap.size w w' := by
  have GW := hid (fun u (hb : Below w.heap.size w u) => wakesC H u (H.keep w u hw hb))
  have GC := hid (copiedC v l w hl hA)
  obtain ⟨s, z, hz, GS, GS'⟩ : ∃ (s : ByteArray) (z : Int), (0 ≤ z ∧ z ≤ 1) ∧ Hid (∀ v' u, Cels u v' l → Below w.heap.size w u → Calls Tryd.prog 6 #[v'] u fun e w' => e = .returned (.tuple #[.string s, .int .i64 z]) ∧ Below u.heap.size u w') ∧ Hid (∀ u, Below w.heap.size w u → Calls Tryd.prog 8 #[v] u fun e w' => e = .returned (.tuple #[.string s, .int .i64 z]) ∧ Below u.heap.size u w') := by
    cases hr : rightB l with
    | false => exact ⟨_, 1, by omega, hid (fun v' u hc hb => H.showNo v' l u hc hr (H.keep w u hw hb)), hid (fun u hb => (showNo v l u (hA.keep hb) hr).mono fun _ _ ⟨he, hw⟩ => ⟨he, by rw [hw]; exact Below.refl _ _⟩)⟩
    | true =>
      obtain ⟨t, ho, rfl, h60⟩ := right_tree hr
      exact ⟨_, 0, by omega, hid (fun v' u hc hb => H.showYes v' t u hc ho h60 (H.keep w u hw hb)), hid (fun u hb => showYes v t u (hA.keep hb) ho h60)⟩
  obtain ⟨av, cv, rfl⟩ := hA.shape
  clear hA hw
  go_enter Tryd.func3, Tryd.ntmps3
  go_wp2_with (first
    | (go_at_call 7; refine GC.out.mono ?_; rintro e w1 ⟨v1, rfl, -, hC1, hb1⟩; have hC1 := hid hC1)
    | (go_at_call 6; refine (GS.out _ w1 hC1.out hb1).mono ?_; rintro e w2 ⟨rfl, hb2'⟩; have hb2 := bl_step hb1 hb2')
    | (go_at_call 8; refine (GS'.out w2 hb2).mono ?_; rintro e w3 ⟨rfl, hb3'⟩; have hb3 := bl_step hb2 hb3')
    | (go_at_call 9; refine (GW.out w3 hb3).mono ?_; rintro e w4 ⟨rfl, hb4'⟩; have hb4 := bl_step hb3 hb4'))
  go_ret
  exact ⟨by first | rfl | simp, hb4⟩


end Go.Proofs.YtjiljfmejgiabaaDoor
namespace Go.Proofs.YtjiljfmejgiabaaDoor
open Go.RowKit

/-- the reader with the cells that it put down -/
def Rd (w : World) (rb : Nat) (s q : Txt) (l : List Cel) : Prop := ∃ v, At w rb v s q ∧ OwnC w rb v l ∧ ∀ c ∈ l, FitC c
theorem own_ne {w : World} {B rb k : Nat} {v : Value} {l : List Cel} {cs : Array Value} (h : OwnC w B v l) (hb : w.heap[rb]? = some (.cells cs 55 (0, 0))) (hk : v.ownBlock = some k) : k ≠ rb := by
  rcases h.2 with ⟨rfl, _⟩ | ⟨g, cap, cur, rfl, _, h3, _⟩
  · cases hk
  · simp [Value.ownBlock] at hk
    subst hk
    intro e
    subst e
    rw [hb] at h3
    injection h3 with h3
    injection h3 with _ h3
    exact absurd h3 (by decide)
theorem Rd.keep {w w' : World} {rb : Nat} {s q : Txt} {l : List Cel} (h : Rd w rb s q l) (hb : Below w.heap.size w w') : Rd w' rb s q l := by
  obtain ⟨v, h1, h2, h3⟩ := h
  exact ⟨v, h1.keep hb, own_below h2 hb, h3⟩
theorem At.blk {w : World} {rb : Nat} {v : Value} {s q : Txt} (h : At w rb v s q) : ∃ k : Nat, w.heap[rb]? = some (.cells #[.string (strT s), .int .i64 (k : Int), v] 55 (0, 0)) := by
  obtain ⟨pre, _, hb⟩ := h
  exact ⟨_, hb⟩
theorem own_kept {w w' : World} {rb : Nat} {v : Value} {s q : Txt} {l : List Cel} (h : At w rb v s q) (ho : OwnC w rb v l) (hk : Kept (oneBlk rb) w w') : OwnC w' rb v l := by
  obtain ⟨k, hb⟩ := h.blk
  exact own_keep ho fun j hj => hk.block j (ho.lt j hj).2 (own_ne ho hb hj)
theorem kept_low {w w' : World} {rb : Nat} (hrb : rb < w.heap.size) (hk : Kept (oneBlk rb) w w') : Below rb w w' := hk.below (fun k e => Nat.le_of_eq (show rb = k from (show k = rb from e).symm)) (Nat.le_of_lt hrb)
/-- a cell's value -/
abbrev cel5 (op : Int) (S : W4) : Array Value := #[.int .i64 op, .int .u64 (S.a : Int), .int .u64 (S.b : Int), .int .u64 (S.c : Int), .int .u64 (S.d : Int)]
theorem cel5_one (op : Int) (S : W4) : ∀ u ∈ (cel5 op S).toList, u.oneCell' = true := fun u hu => by
  simp at hu
  rcases hu with rfl | rfl | rfl | rfl | rfl <;> rfl

/-- behind the append and the store -/
theorem put_end {w u w' : World} {rb g cap k : Nat} {v : Value} {s q : Txt} {l : List Cel} {op : Int} {S : W4} (hAt : At w rb v s q) (hO : OwnC w rb v l) (hF : ∀ c ∈ l, FitC c) (hc : FitC ⟨op, S⟩) (hu : Below w.heap.size w u)
    (hO' : w'.ownsRow rb 46 5 (.slice (some ⟨g, 0, none⟩) (l.length + 1) cap) (l.length + 1) (flatC l ++ (cel5 op S).toList)) (hg : u.grownBy w' v.ownBlock) (hat : v.ownBlock = some g ∨ g = k) (hk : w.heap.size ≤ k) :
    Rd (w'.setCell ⟨rb, 2, none⟩ (.slice (some ⟨g, 0, none⟩) (l.length + 1) cap)) rb s q (l ++ [⟨op, S⟩]) ∧ Below rb w (w'.setCell ⟨rb, 2, none⟩ (.slice (some ⟨g, 0, none⟩) (l.length + 1) cap)) := by
  obtain ⟨j, hb⟩ := hAt.blk
  have hrb := blk_lt hb
  have hgr : g ≠ rb := by
    rcases hat with h | h
    · exact own_ne hO hb h
    · omega
  have hbw : ∀ cs, w.heap[rb]? = some cs → w'.heap[rb]? = some cs := fun cs h => (hg.block rb (Nat.lt_of_lt_of_le hrb hu.size) (fun e => own_ne hO hb e.symm rfl)).trans ((hu.block rb hrb).trans h)
  refine ⟨⟨.slice (some ⟨g, 0, none⟩) (l.length + 1) cap, ?_, ?_, ?_⟩, ?_⟩
  · obtain ⟨pre, hp, hb'⟩ := hAt
    refine ⟨pre, hp, ?_⟩
    rw [heap_setCell (o := 2) (hbw _ hb')]
    simp
  · unfold OwnC
    have e : flatC (l ++ [⟨op, S⟩]) = flatC l ++ (cel5 op S).toList := by rw [flatC_app]; rfl
    rw [e, List.length_append]
    refine own_keep hO' fun i hi => ?_
    simp [Value.ownBlock] at hi
    subst hi
    exact Below.heap_setCell _ _ _ _ hgr
  · intro c hcm
    rcases List.mem_append.1 hcm with h | h
    · exact hF c h
    · simp at h; subst h; exact hc
  · refine bl_set ?_ rb 2 _ (Nat.le_refl _)
    have h1 : Below rb w u := hu.mono (Nat.le_of_lt hrb)
    exact h1.grown hg (Nat.le_trans (Nat.le_of_lt hrb) hu.size) (fun i hi => (hO.lt i hi).1)

set_option maxHeartbeats 2000000 in
theorem putC {w : World} {rb : Nat} {s q : Txt} {l : List Cel} (h : Rd w rb s q l) (hl : l.length ≤ 100000) (op : Int) (h0 : -9223372036854775808 ≤ op) (h1 : op ≤ 9223372036854775807) :
    Calls Tryd.prog 42 #[.pointer (some ⟨rb, 0, none⟩), .int .i64 op] w fun e w' => e = .returned (.tuple #[]) ∧ Rd w' rb s q (l ++ [⟨op, noneB⟩]) ∧ Below rb w w' := by
  obtain ⟨v, hAt, hO, hF⟩ := h
  obtain ⟨i0, hi, hz0, hz1, hz2⟩ := info_parts Tryd.info46
  obtain ⟨k, hb⟩ := hAt.blk
  have hrb := blk_lt hb
  obtain ⟨c0, c1, c2, c3, c4⟩ := rd3 hb
  have hO1 := hid (own_below hO (al' w (.cells (cel5 op noneB) 46)))
  have hN := hid (World.news_of_block (heap_new w (.cells (cel5 op noneB) 46)))
  have hal := hid (al' w (.cells (cel5 op noneB) 46))
  have hgo : Hid (∀ g cap w', w'.ownsRow rb 46 5 (.slice (some ⟨g, 0, none⟩) (l.length + 1) cap) (l.length + 1) (flatC l ++ (cel5 op noneB).toList) → (w.alloc (.cells (cel5 op noneB) 46)).grownBy w' v.ownBlock → (v.ownBlock = some g ∨ g = w.heap.size + 1) →
      (w'.cell? ⟨rb, 2, none⟩ = some v ∧ w'.frozen? ⟨rb, 2, none⟩ = false) ∧ Rd (w'.setCell ⟨rb, 2, none⟩ (.slice (some ⟨g, 0, none⟩) (l.length + 1) cap)) rb s q (l ++ [⟨op, noneB⟩]) ∧ Below rb w (w'.setCell ⟨rb, 2, none⟩ (.slice (some ⟨g, 0, none⟩) (l.length + 1) cap))) := hid (fun g cap w' h1' h2' h3' => by
    refine ⟨?_, put_end hAt hO hF ⟨h0, h1, noneB_fit⟩ (al' w _) h1' h2' h3' (Nat.le_succ _)⟩
    have hbw : w'.heap[rb]? = _ := (h2'.block rb (by simp; omega) (fun e => own_ne hO hb e.symm rfl)).trans ((hal.out.block rb hrb).trans hb)
    exact ⟨blk_cell hbw rfl, blk_frozen hbw 2⟩)
  clear hAt hO hF hb
  go_enter Tryd.func42, Tryd.ntmps42
  go_wp2_with (at_builtin; refine wpList_append_lies _ (by rfl) _ _ _ (by rfl) rb 46 i0 (.agg #[.int .i64 0, .int .u64 0, .int .u64 0, .int .u64 0, .int .u64 0]) 5 40 Tryd.underlying22 hi hz0 hz1 hz2 rfl (by decide) v l.length (flatC l) (by rfl) hO1.out ⟨w.heap.size, 0, none⟩ 1 1 (cel5 op noneB).toList (by rfl) (by rfl) hN.out (cel5_one op noneB) (by omega) (by (unfold maxLen); omega) (by omega) (by simp; omega) (w.heap.size + 1) (by simp) ?_; intro g cap w1 hown1 hgrow hat hlt; obtain ⟨⟨d2, d4⟩, hend⟩ := hgo.out g cap w1 hown1 hgrow hat; have hend := hid hend)
  first | go_end0 | skip
  exact ⟨rfl, hend.out⟩

set_option maxHeartbeats 2000000 in
theorem putSetC {w : World} {rb : Nat} {s q : Txt} {l : List Cel} (h : Rd w rb s q l) (hl : l.length ≤ 100000) (a0 a1 a2 a3 : Nat) (hS : Fit4 ⟨a0, a1, a2, a3⟩) :
    Calls Tryd.prog 63 #[.pointer (some ⟨rb, 0, none⟩), valB ⟨a0, a1, a2, a3⟩] w fun e w' => e = .returned (.tuple #[]) ∧ Rd w' rb s q (l ++ [⟨1, ⟨a0, a1, a2, a3⟩⟩]) ∧ Below rb w w' := by
  obtain ⟨v, hAt, hO, hF⟩ := h
  obtain ⟨i0, hi, hz0, hz1, hz2⟩ := info_parts Tryd.info46
  obtain ⟨k, hb⟩ := hAt.blk
  have hrb := blk_lt hb
  have hD1 := hid (al' w (.cells #[.int .u64 (a0 : Int), .int .u64 (a1 : Int), .int .u64 (a2 : Int), .int .u64 (a3 : Int)] 44)).drew
  have hO1 := hid (fun u (hu : Below w.heap.size w u) => own_below hO hu)
  have hN := hid (World.news_of_block (w := ((w.alloc (.cells #[.int .u64 (a0 : Int), .int .u64 (a1 : Int), .int .u64 (a2 : Int), .int .u64 (a3 : Int)] 44)).drew.alloc (.cells (cel5 1 ⟨a0, a1, a2, a3⟩) 46))) (two_blocks w (.cells #[.int .u64 (a0 : Int), .int .u64 (a1 : Int), .int .u64 (a2 : Int), .int .u64 (a3 : Int)] 44) (.cells (cel5 1 ⟨a0, a1, a2, a3⟩) 46)).2)
  have hgo : Hid (∀ u k g cap w', Below w.heap.size w u → w.heap.size ≤ k → w'.ownsRow rb 46 5 (.slice (some ⟨g, 0, none⟩) (l.length + 1) cap) (l.length + 1) (flatC l ++ (cel5 1 ⟨a0, a1, a2, a3⟩).toList) → u.grownBy w' v.ownBlock → (v.ownBlock = some g ∨ g = k) →
      (w'.cell? ⟨rb, 2, none⟩ = some v ∧ w'.frozen? ⟨rb, 2, none⟩ = false) ∧ Rd (w'.setCell ⟨rb, 2, none⟩ (.slice (some ⟨g, 0, none⟩) (l.length + 1) cap)) rb s q (l ++ [⟨1, ⟨a0, a1, a2, a3⟩⟩]) ∧ Below rb w (w'.setCell ⟨rb, 2, none⟩ (.slice (some ⟨g, 0, none⟩) (l.length + 1) cap))) := hid (fun u k g cap w' hu hk h1' h2' h3' => by
    refine ⟨?_, put_end hAt hO hF ⟨show (-9223372036854775808 : Int) ≤ 1 by decide, show (1 : Int) ≤ 9223372036854775807 by decide, hS⟩ hu h1' h2' h3' hk⟩
    have hbw : w'.heap[rb]? = _ := (h2'.block rb (Nat.lt_of_lt_of_le hrb hu.size) (fun e => own_ne hO hb e.symm rfl)).trans ((hu.block rb hrb).trans hb)
    exact ⟨blk_cell hbw rfl, blk_frozen hbw 2⟩)
  have hb1 := (hD1.out.block rb hrb).trans hb
  obtain ⟨c0, c1, c2, c3, c4⟩ := rd3 hb1
  have bS : Blk (w.alloc (.cells #[.int .u64 (a0 : Int), .int .u64 (a1 : Int), .int .u64 (a2 : Int), .int .u64 (a3 : Int)] 44)).drew w.heap.size ⟨a0, a1, a2, a3⟩ := heap_new w _
  obtain ⟨s0, s1, s2, s3, s4, s5, s6, s7⟩ := bS.cells
  obtain ⟨e0, e1, e2, e3, e4⟩ := rd3 hb
  clear hAt hO hF hb hb1 bS
  go_enter Tryd.func63, Tryd.ntmps63
  go_wp2_with fail
  go_region_law ((first
    | (refine step_append_lies _ (by rfl) (.tmp 8) (.tmp 11) 22 (by rfl) rb 46 i0 (.agg #[.int .i64 0, .int .u64 0, .int .u64 0, .int .u64 0, .int .u64 0]) 5 40 Tryd.underlying22 hi hz0 hz1 hz2 rfl (by decide) v l.length (flatC l) (by rfl) (hO1.out _ (bl_step hD1.out (al' _ _))) ⟨w.heap.size + 1, 0, none⟩ 1 1 (cel5 1 ⟨a0, a1, a2, a3⟩).toList (by rfl) (by rfl) hN.out (cel5_one _ _) (by omega) (by (unfold maxLen); omega) (by omega) (by simp; omega) (w.heap.size + 2) (by simp) ?_; intro g cap w1 hown1 hgrow hat hlt; obtain ⟨⟨d2, d4⟩, hend⟩ := hgo.out _ _ g cap w1 (bl_step hD1.out (al' _ _)) (by omega) hown1 hgrow hat; have hend := hid hend)
    | fail))
  all_goals
    first | go_end0 | skip
    exact ⟨rfl, hend.out⟩

end Go.Proofs.YtjiljfmejgiabaaDoor
