/- The walks of RegexBack and RegexNormal, over what is asked of package regex. -/
import Derived.Test.YtjiljfmejgiabaaDoorJ28
namespace Go.Proofs.YtjiljfmejgiabaaDoor
open Go.RowKit

theorem fit_post : ∀ t : Rx, (∀ c ∈ post t, FitC c) → t.fit
  | .set S, h => (h ⟨1, S⟩ (by simp [post])).s
  | .eps, _ => trivial
  | .cat a b, h => ⟨fit_post a fun c hc => h c (by simp [post, hc]), fit_post b fun c hc => h c (by simp [post, hc])⟩
  | .or a b, h => ⟨fit_post a fun c hc => h c (by simp [post, hc]), fit_post b fun c hc => h c (by simp [post, hc])⟩
  | .star a, h => fit_post a fun c hc => h c (by simp [post, hc])
  | .plus a, h => fit_post a fun c hc => h c (by simp [post, hc])
  | .opt a, h => fit_post a fun c hc => h c (by simp [post, hc])
theorem Cels.fit {w : World} {v : Value} {l : List Cel} (h : Cels w v l) : ∀ c ∈ l, FitC c := by
  obtain ⟨_, _, _, _, _, hf, _⟩ := h
  exact hf

set_option maxHeartbeats 2000000 in
theorem backWalk {OK : World → Prop} (H : RegexOK OK) (v : Value) (l : List Cel) (w : World) (hl : l.length * 40 ≤ 140737488351232) (hA : Cels w v l) (hw : OK w) :
    Calls Tryd.prog 4 #[v] w fun e w' => e = .returned (.bool true) ∧ Below w.heap.size w w' := by
  have GW := hid (fun u (hb : Below w.heap.size w u) => wakesC H u (H.keep w u hw hb))
  have GC := hid (copiedC v l w hl hA)
  cases hr : rightB l with
  | false =>
    have GS := hid (fun v' u (hc : Cels u v' l) (hb : Below w.heap.size w u) => H.showNo v' l u hc hr (H.keep w u hw hb))
    have GR := hid (fun u (hb : Below w.heap.size w u) => rightC v l u (hA.keep hb))
    rw [hr] at GR
    obtain ⟨av, cv, rfl⟩ := hA.shape
    clear hA hw hr
    go_enter Tryd.func4, Tryd.ntmps4
    go_wp2_with (first
      | (go_at_call 7; refine GC.out.mono ?_; rintro e w1 ⟨v1, rfl, -, hC1, hb1⟩; have hC1 := hid hC1)
      | (go_at_call 6; refine (GS.out _ w1 hC1.out hb1).mono ?_; rintro e w2 ⟨rfl, hb2'⟩; have hb2 := bl_step hb1 hb2')
      | (go_at_call 9; refine (GW.out w2 hb2).mono ?_; rintro e w3 ⟨rfl, hb3'⟩; have hb3 := bl_step hb2 hb3')
      | (go_at_call 10; refine (GR.out w3 hb3).mono ?_; rintro e u3 ⟨rfl, hu⟩; subst u3))
    go_ret
    exact ⟨by first | rfl | simp, hb3⟩
  | true =>
    obtain ⟨t, ho, rfl, h60⟩ := right_tree hr
    have hf := fit_post t hA.fit
    have hread := reads_all ho hf
    have GS := hid (fun v' u (hc : Cels u v' (post t)) (hb : Below w.heap.size w u) => H.showYes v' t u hc ho h60 (H.keep w u hw hb))
    have hsz := strT_size (txt t)
    have hlen := txt_len t
    by_cases hlong : 200 < (txt t).length
    · have GP := hid (fun u (hb : Below w.heap.size w u) => H.long (txt t) u hlong (H.keep w u hw hb))
      have hlz : (200 : Int) < ((strT (txt t)).size : Int) := by omega
      generalize strT (txt t) = Z at GS GP hsz hlz
      obtain ⟨av, cv, rfl⟩ := hA.shape
      clear hA hw hr hread hf
      go_enter Tryd.func4, Tryd.ntmps4
      go_wp2_with (first
        | (go_at_call 7; refine GC.out.mono ?_; rintro e w1 ⟨v1, rfl, -, hC1, hb1⟩; have hC1 := hid hC1)
        | (go_at_call 6; refine (GS.out _ w1 hC1.out hb1).mono ?_; rintro e w2 ⟨rfl, hb2'⟩; have hb2 := bl_step hb1 hb2')
        | (go_at_call 9; refine (GW.out w2 hb2).mono ?_; rintro e w3 ⟨rfl, hb3'⟩; have hb3 := bl_step hb2 hb3')
        | (go_at_call 11; refine (GP.out w3 hb3).mono ?_; rintro e w4 ⟨a4, c4, rfl, hb4'⟩; have hb4 := bl_step hb3 hb4'))
      go_ret
      exact ⟨by first | rfl | simp, hb4⟩
    · have GP := hid (fun u (hb : Below w.heap.size w u) => H.good (txt t) t u (by omega) hread h60 (H.keep w u hw hb))
      have hlz : ¬ (200 : Int) < ((strT (txt t)).size : Int) := by omega
      have GE := hid (fun v' u (hc : Cels u v' (post t)) (hb : Below w.heap.size w u) => sameC v' v (post t) (post t) u (by omega) hc (hA.keep hb))
      rw [decide_eq_true (rfl : post t = post t)] at GE
      generalize strT (txt t) = Z at GS GP hsz hlz
      obtain ⟨av, cv, rfl⟩ := hA.shape
      clear hA hw hr hread hf
      go_enter Tryd.func4, Tryd.ntmps4
      go_wp2_with (first
        | (go_at_call 7; refine GC.out.mono ?_; rintro e w1 ⟨v1, rfl, -, hC1, hb1⟩; have hC1 := hid hC1)
        | (go_at_call 6; refine (GS.out _ w1 hC1.out hb1).mono ?_; rintro e w2 ⟨rfl, hb2'⟩; have hb2 := bl_step hb1 hb2')
        | (go_at_call 9; refine (GW.out w2 hb2).mono ?_; rintro e w3 ⟨rfl, hb3'⟩; have hb3 := bl_step hb2 hb3')
        | (go_at_call 11; refine (GP.out w3 hb3).mono ?_; rintro e w4 ⟨v4, rfl, hC4, hb4'⟩; have hb4 := bl_step hb3 hb4'; have hC4 := hid hC4)
        | (go_at_call 12; refine (GE.out _ w4 hC4.out hb4).mono ?_; rintro e w5 ⟨rfl, hb5'⟩; have hb5 := bl_step hb4 hb5'))
      go_ret
      exact ⟨by first | rfl | simp, hb5⟩

/-- what Parse answers to a text: no cells and an error, or a rule -/
theorem parse_ways {OK : World → Prop} (H : RegexOK OK) (s : Txt) : (∃ z : Int, z ≠ 0 ∧ 0 ≤ z ∧ z ≤ 3 ∧ ∀ u, OK u → Calls Tryd.prog 11 #[.string (strT s)] u fun e w' => ∃ a c n, e = .returned (.tuple #[.slice a 0 c, .int .i64 n, .int .i64 z]) ∧ Below u.heap.size u w') ∨
    ∃ t : Rx, rowsP s = some (t, []) ∧ s.length ≤ 200 ∧ (post t).length ≤ 60 := by
  by_cases hs : 200 < s.length
  · exact Or.inl ⟨3, by omega, by omega, by omega, fun u hu => (H.long s u hs hu).mono fun e w' ⟨a, c, he, hb⟩ => ⟨a, c, 0, he, hb⟩⟩
  · by_cases ht : ∃ t, rowsP s = some (t, [])
    · obtain ⟨t, ht⟩ := ht
      by_cases h60 : 60 < (post t).length
      · exact Or.inl ⟨3, by omega, by omega, by omega, fun u hu => (H.full s t u (by omega) ht h60 hu).mono fun e w' ⟨a, c, he, hb⟩ => ⟨a, c, 0, he, hb⟩⟩
      · exact Or.inr ⟨t, ht, by omega, by omega⟩
    · exact Or.inl ⟨1, by omega, by omega, by omega, fun u hu => H.bad s u (by omega) (fun t e => ht ⟨t, e⟩) hu⟩
theorem strT_list (s : ByteArray) : strT s.data.toList = s := by
  apply ByteArray.ext
  simp [strT]

set_option maxHeartbeats 2000000 in
theorem normalWalk {OK : World → Prop} (H : RegexOK OK) (s : ByteArray) (w : World) (hs : s.size ≤ 140737488351232) (hw : OK w) :
    Calls Tryd.prog 5 #[.string s] w fun e w' => e = .returned (.bool true) ∧ Below w.heap.size w w' := by
  have GW := hid (wakesC H w hw)
  by_cases h4 : 4096 < s.size
  · have h4z : (4096 : Int) < (s.size : Int) := by omega
    clear hw
    go_enter Tryd.func5, Tryd.ntmps5
    go_wp2_with (go_at_call 9; refine GW.out.mono ?_; rintro e w1 ⟨rfl, hb1⟩)
    go_ret
    exact ⟨rfl, hb1⟩
  · have h4z : ¬ (4096 : Int) < (s.size : Int) := by omega
    rcases parse_ways H s.data.toList with ⟨z, hz0, hz1, hz2, GP⟩ | ⟨t, ht, hlen, h60⟩
    · rw [strT_list] at GP
      have GP := hid (fun u (hb : Below w.heap.size w u) => GP u (H.keep w u hw hb))
      have hz : (z == 0) = false := beq_eq_false_iff_ne.2 hz0
      clear hw hz0
      go_enter Tryd.func5, Tryd.ntmps5
      go_wp2_with (first
        | (go_at_call 9; refine GW.out.mono ?_; rintro e w1 ⟨rfl, hb1⟩)
        | (go_at_call 11; refine (GP.out w1 hb1).mono ?_; rintro e w2 ⟨a2, c2, n2, rfl, hb2'⟩; have hb2 := bl_step hb1 hb2'))
      go_ret
      exact ⟨by first | rfl | simp, hb2⟩
    · obtain ⟨ho, hf⟩ := rowsP_good ht
      have hread := reads_all ho hf
      have GP := hid (fun u (hb : Below w.heap.size w u) => H.good s.data.toList t u hlen ht h60 (H.keep w u hw hb))
      rw [strT_list] at GP
      have GS := hid (fun v' u (hc : Cels u v' (post t)) (hb : Below w.heap.size w u) => H.showYes v' t u hc ho h60 (H.keep w u hw hb))
      have hsz := strT_size (txt t)
      by_cases hlong : 200 < (txt t).length
      · have GQ := hid (fun u (hb : Below w.heap.size w u) => H.long (txt t) u hlong (H.keep w u hw hb))
        have hlz : (200 : Int) < ((strT (txt t)).size : Int) := by omega
        generalize strT (txt t) = Z at GS GQ hsz hlz
        clear hw hread hf ht
        go_enter Tryd.func5, Tryd.ntmps5
        go_wp2_with (first
          | (go_at_call 9; refine GW.out.mono ?_; rintro e w1 ⟨rfl, hb1⟩)
          | (go_at_call 11; refine (GQ.out w3 hb3).mono ?_; rintro e w4 ⟨a4, c4, rfl, hb4'⟩; have hb4 := bl_step hb3 hb4')
          | (go_at_call 11; refine (GP.out w1 hb1).mono ?_; rintro e w2 ⟨v2, rfl, hC2, hb2'⟩; have hb2 := bl_step hb1 hb2'; have hC2 := hid hC2)
          | (go_at_call 6; refine (GS.out _ w2 hC2.out hb2).mono ?_; rintro e w3 ⟨rfl, hb3'⟩; have hb3 := bl_step hb2 hb3'))
        go_ret
        exact ⟨by first | rfl | simp, hb4⟩
      · have GQ := hid (fun u (hb : Below w.heap.size w u) => H.good (txt t) t u (by omega) hread h60 (H.keep w u hw hb))
        have hlz : ¬ (200 : Int) < ((strT (txt t)).size : Int) := by omega
        have GE := hid (fun v' v'' u (hc : Cels u v' (post t)) (hc' : Cels u v'' (post t)) => sameC v' v'' (post t) (post t) u (by omega) hc hc')
        rw [decide_eq_true (rfl : post t = post t)] at GE
        generalize strT (txt t) = Z at GS GQ hsz hlz
        clear hw hread hf ht
        go_enter Tryd.func5, Tryd.ntmps5
        go_wp2_with (first
          | (go_at_call 9; refine GW.out.mono ?_; rintro e w1 ⟨rfl, hb1⟩)
          | (go_at_call 11; refine (GQ.out w3 hb3).mono ?_; rintro e w4 ⟨v4, rfl, hC4, hb4'⟩; have hb4 := bl_step hb3 hb4'; have hC4 := hid hC4; have hC24 := hid ((hC2.out.keep hb3').keep hb4'))
          | (go_at_call 11; refine (GP.out w1 hb1).mono ?_; rintro e w2 ⟨v2, rfl, hC2, hb2'⟩; have hb2 := bl_step hb1 hb2'; have hC2 := hid hC2)
          | (go_at_call 6; refine (GS.out _ w2 hC2.out hb2).mono ?_; rintro e w3 ⟨rfl, hb3'⟩; have hb3 := bl_step hb2 hb3')
          | (go_at_call 12; refine (GE.out _ _ w4 hC24.out hC4.out).mono ?_; rintro e w5 ⟨rfl, hb5'⟩; have hb5 := bl_step hb4 hb5'))
        go_ret
        exact ⟨by first | rfl | simp, hb5⟩

end Go.Proofs.YtjiljfmejgiabaaDoor
