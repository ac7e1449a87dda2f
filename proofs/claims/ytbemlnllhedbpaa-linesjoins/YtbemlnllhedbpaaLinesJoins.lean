/- LinesJoins, of every two texts: where the lines of both, one behind the other, begin. -/
import Derived.Test.YtbemlnllhedbpaaJoinMath
import Derived.Maps.AppendAt
namespace Go.Proofs.Ytbemlnllhedbpaa
open Go.ChangeShapes Go.WideShapes Go.ChangeAt Go.RowKit
open Go.ChangeMaps (open_string shut_string)

theorem shiftT_len (n : Int) (l : List Int) : (shiftT n l).length ≤ l.length := by unfold shiftT; rw [List.length_map]; exact List.length_filter_le _ _

theorem cell_blk {w u : World} {g o : Nat} (h : w.heap[g]? = u.heap[g]?) : w.cell? ⟨g, o, none⟩ = u.cell? ⟨g, o, none⟩ := by unfold World.cell?; simp only [h]

set_option maxHeartbeats 4000000 in
theorem joinsWalk (s t : ByteArray) (w : World) (hs : s.size ≤ 9223372036854775807) (ht : t.size ≤ 9223372036854775807) :
    Calls Try.prog 7 #[.string s, .string t] w fun e w' => e = .returned (.bool true) ∧ Below w.heap.size w w' := by
  have GW : Hid (∀ u, Calls Try.prog 8 #[] u fun e w' => e = .returned (.bool true) ∧ Below u.heap.size u w') := wakesC
  have GL := hid (fun u => longC s u hs)
  have GT := hid (fun u => longC t u ht)
  by_cases h : 4000 < s.size
  · rw [decide_eq_true h] at GL
    go_enter Try.func7, Try.ntmps7
    go_wp2_with (first
      | (go_at_call 8; refine (GW.out _).mono ?_; rintro e w1 ⟨rfl, hb1⟩)
      | (go_at_call 9; refine (GL.out _).mono ?_; rintro e w2 ⟨rfl, hw2⟩; subst w2))
    go_ret
    exact ⟨rfl, hb1⟩
  · rw [decide_eq_false h] at GL
    by_cases h2 : 4000 < t.size
    · rw [decide_eq_true h2] at GT
      go_enter Try.func7, Try.ntmps7
      go_wp2_with (first
        | (go_at_call 8; refine (GW.out _).mono ?_; rintro e w1 ⟨rfl, hb1⟩)
        | (go_at_call_of 9 (Value.string s); refine (GL.out _).mono ?_; rintro e w2 ⟨rfl, hw2⟩; subst w2)
        | (go_at_call 9; refine (GT.out _).mono ?_; rintro e w2 ⟨rfl, hw2⟩; subst w2))
      go_ret
      exact ⟨rfl, hb1⟩
    · rw [decide_eq_false h2] at GT
      have hls := stN_len s s.size
      have hlt := stN_len t t.size
      have GA : Hid (∀ u, Calls Try.prog 11 #[.string t] u fun e w' => ∃ v, e = .returned v ∧ w'.ownsRow u.heap.size 3 1 v (st t).length (numCells (st t)) ∧ Below u.heap.size u w') := fun u => starts11 t u (by omega)
      have GB : Hid (∀ u, Calls Try.prog 12 #[.string s] u fun e w' => ∃ v, e = .returned v ∧ w'.ownsRow u.heap.size 3 1 v (st s).length (numCells (st s)) ∧ Below u.heap.size u w') := fun u => refStarts12 s u (by omega)
      have GC : Hid (∀ u, Calls Try.prog 11 #[.string (s ++ t)] u fun e w' => ∃ v, e = .returned v ∧ Nums w' v (st (s ++ t)) ∧ Below u.heap.size u w') := fun u => startsC (s ++ t) u (by rw [ByteArray.size_append]; omega)
      have GS : Hid (∀ va vb u, Nums u va (st (s ++ t)) → Nums u vb (st s ++ shiftT s.size (st t)) → Calls Try.prog 10 #[va, vb] u fun e w' => e = .returned (.bool true) ∧ Below u.heap.size u w') := fun va vb u ha hb => by
        have hl := st_len (s ++ t)
        rw [ByteArray.size_append] at hl
        rw [← st_app] at hb
        have := same10 va vb _ _ u (by omega) (by omega) ha hb
        rwa [decide_eq_true rfl] at this
      change 0 < (st s).length ∧ (st s).length ≤ s.size + 1 at hls
      change 0 < (st t).length ∧ (st t).length ≤ t.size + 1 at hlt
      have hbd : ∀ j (h : j < (st t).length), 0 ≤ (st t)[j] ∧ (st t)[j] ≤ t.size := fun j h => stN_le t t.size _ (List.getElem_mem h)
      obtain ⟨i0, hi, hz0, hz1, hz2⟩ := info_parts Try.info3
      generalize st (s ++ t) = ST at GC GS
      generalize hS : st s = SS at GB GS hls
      generalize hT : st t = TT at GA GS hlt hbd
      clear hS hT
      go_enter Try.func7, Try.ntmps7
      go_wp2_with (first
        | (go_at_call 8; refine (GW.out _).mono ?_; rintro e w1 ⟨rfl, hb1⟩)
        | (go_at_call_of 9 (Value.string s); refine (GL.out _).mono ?_; rintro e w2 ⟨rfl, hw2⟩; subst w2)
        | (go_at_call 9; refine (GT.out _).mono ?_; rintro e w2 ⟨rfl, hw2⟩; subst w2)
        | (go_at_call 12; refine (GB.out _).mono ?_; rintro e w3 ⟨vb, rfl, hr3, hb3⟩; obtain ⟨g3, cap3, rfl⟩ := (Joins.ownsRow_forms hr3).resolve_left (fun h => (by (have := h.2; omega))); have hz1' := hb1.size; have hz3 := hb3.size; simp only [World.size_alloc] at hz3; have hrow : w3.ownsRow w.heap.size 3 1 (.slice (some ⟨w1.heap.size, 0, none⟩) 0 0) 0 [] := (own_below (World.ownsRow_lit w1 #[] 0 hz1' (by unfold maxLen; omega) rfl) hb3); have B3 : Below w.heap.size w w3 := (bl_step (bl_step hb1 ((Below.refl _ _).alloc (Nat.le_refl _) _)) hb3))
        | (at_builtin; refine wpList_append_own _ rfl _ _ 25 rfl w.heap.size 3 i0 (.int .i64 0) 1 8 Try.underlying25 hi hz0 hz1 hz2 rfl (by decide) _ _ _ rfl hrow ⟨g3, 0, none⟩ SS.length cap3 (numCells SS) rfl (by rw [numCells_len]; omega) (own_news hr3) (numCells_one SS) (by unfold maxLen; omega) (by omega) (by omega) ?_; intro v4 w4 hr4 hg4 _; rw [Nat.zero_add, List.nil_append] at hr4; have B4 : Below w.heap.size w w4 := (B3.grown hg4 (by omega) (fun k hk => (hrow.lt k hk).1)); clear hrow hg4 hr3 hb3 B3)
        | (go_at_call_of 11 (Value.string t); refine (GA.out _).mono ?_; rintro e w5 ⟨v5, rfl, hr5, hb5⟩; obtain ⟨g5, cap5, rfl⟩ := (Joins.ownsRow_forms hr5).resolve_left (fun h => (by (have := h.2; omega))))
        | fail)
      have hr0 := own_below hr4 hb5
      have B5 : Below w.heap.size w w5 := bl_step B4 hb5
      have hg5 := hr5.lt g5 rfl
      have hne0 : ∀ b, v4.ownBlock = some b → b ≠ g5 := fun b hb e => by have := (hr4.lt b hb).2; omega
      have hcs := hid (fun (j : Nat) (hj : j < TT.length) => (by
        have := own_news hr5 j _ (numCells_at hj)
        by_cases h0 : j = 0
        · subst h0; simpa [Addr.add] using this
        · simpa [Addr.add, h0] using this : w5.cell? ⟨g5, j, none⟩ = some (.int .i64 TT[j])))
      clear hr4 hr5 hb5 B4
      have hls2 := hls.2
      go_loopw [5, 23] (fun v i wr => ∃ k : Nat, k ≤ TT.length ∧ i = .int .i64 k ∧ wr.ownsRow w.heap.size 3 1 v (SS ++ shiftT s.size (TT.take k)).length (numCells (SS ++ shiftT s.size (TT.take k))) ∧ (∀ b, v.ownBlock = some b → b ≠ g5) ∧ wr.heap[g5]? = w5.heap[g5]? ∧ g5 < wr.heap.size ∧ Below w.heap.size w wr) (fun _ i _ => TT.length - (intOf i).toNat)
      case atStart => exact ⟨0, Nat.zero_le _, rfl, by rw [List.take_zero, show shiftT (s.size : Int) [] = [] from rfl, List.append_nil]; exact hr0, hne0, rfl, hg5.2, B5⟩
      case round =>
        obtain ⟨k, hk, rfl, hown, hne, hblk, hglt, hbl⟩ := hrel
        clear hr0 hne0
        have hsz := hbl.size
        have hln : (SS ++ shiftT s.size (TT.take k)).length ≤ 10000 := by
          have := shiftT_len s.size (TT.take k)
          have h3 : (TT.take k).length ≤ k := List.length_take_le _ _
          rw [List.length_append]; omega
        by_cases hlt' : k < TT.length
        · have hcell : wr.cell? ⟨g5, k, none⟩ = some (.int .i64 TT[k]) := (cell_blk hblk).trans (hcs.out k hlt')
          have hb := hbd k hlt'
          have hkz : (k : Int) < (TT.length : Int) := by omega
          have htk : TT.take (k + 1) = TT.take k ++ [TT[k]] := List.take_succ_eq_append_getElem hlt'
          clear hbd
          generalize TT[k] = x at hcell hb htk
          by_cases hx : 0 < x
          · have hsn : SS ++ shiftT s.size (TT.take (k + 1)) = (SS ++ shiftT s.size (TT.take k)) ++ [(s.size : Int) + x] := by rw [htk, shiftT_snoc, if_pos hx, List.append_assoc]
            clear htk
            generalize hR1 : shiftT s.size (TT.take (k + 1)) = R1 at hsn
            generalize shiftT s.size (TT.take k) = R0 at hsn hown hln
            go_wp2_with (at_builtin; refine wpList_append_own_at _ rfl _ _ 25 rfl w.heap.size 3 i0 (.int .i64 0) 1 8 Try.underlying25 hi hz0 hz1 hz2 rfl (by decide) _ _ _ rfl (hown.alloc _) ⟨wr.heap.size, 0, none⟩ 1 1 [.int .i64 ((s.size : Int) + x)] rfl rfl ?c1 ?c2 ?c3 ?c4 ?c5 ?_)
            case c1 =>
              intro j u hj
              match j, hj with
              | 0, hj => simp at hj; subst hj; simp [Addr.add]
            case c2 => intro u hu; simp at hu; subst hu; rfl
            case c3 => unfold maxLen; omega
            case c4 => omega
            case c5 => simp; omega
            intro v' w2 hown' hgrow _ hwh
            have R := below_app hown hbl (Nat.le_refl _) hgrow
            have hne' : ∀ b, v'.ownBlock = some b → b ≠ g5 := fun b hb => by
              rcases hwh with e | e
              · exact hne b (e ▸ hb)
              · rw [e] at hb
                simp at hb
                omega
            have hblk' : w2.heap[g5]? = w5.heap[g5]? := by
              rw [hgrow.block g5 (by simp; omega) (fun e => hne g5 e.symm rfl), show (wr.alloc _).heap[g5]? = wr.heap[g5]? from ((Below.refl wr.heap.size wr).alloc (Nat.le_refl _) _).block g5 hglt]
              exact hblk
            have hglt' : g5 < w2.heap.size := by have := hgrow.size; simp at this; omega
            rw [← numCells_snoc, ← hsn] at hown'
            have hl2 : SS.length + R0.length + 1 = (SS ++ R1).length := by rw [hsn, List.length_append, List.length_append, List.length_singleton]
            first | rw [hl2] at hown' | rw [show (SS ++ R0).length + 1 = (SS ++ R1).length by rw [← hl2, List.length_append]] at hown'
            clear hgrow hown hcell hwh
            go_wp2
            go_roundw
            case rel => exact ⟨k + 1, by omega, by go_num, by rw [hR1]; exact hown', hne', hblk', hglt', R⟩
            case measure => simp [intOf]; omega
          · have hsn : shiftT s.size (TT.take (k + 1)) = shiftT s.size (TT.take k) := by rw [htk, shiftT_snoc, if_neg hx, List.append_nil]
            go_wp2
            go_roundw
            case rel => exact ⟨k + 1, by omega, by go_num, by rw [hsn]; exact hown, hne, hblk, hglt, hbl⟩
            case measure => simp [intOf]; omega
        · obtain rfl : k = TT.length := by omega
          rw [List.take_of_length_le (Nat.le_refl _)] at hown
          have hnum := Nums.of_row hown
          clear hown
          go_wp2_with (first
            | (go_at_call 11; refine (GC.out _).mono ?_; rintro e w6 ⟨v6, rfl, hn6, hb6⟩)
            | (go_at_call 10; refine (GS.out _ _ _ hn6 (hnum.keep hb6)).mono ?_; rintro e w7 ⟨rfl, hb7⟩))
          go_ret
          exact ⟨rfl, bl_step (bl_step hbl hb6) hb7⟩

theorem open_ss {H : Type} {enc : TypeId × Value → H} {W : World} {base : Nat} {args : Array Value} {ds : List (DataW H)} {p : List MemPlace}
    (hval : ∀ (j : Nat) t v, #[9, 9][j]? = some t → args[j]? = some v → Value.okWide Try.prog W .any base t v)
    (hA : DataW.TrodAll enc Try.prog W 0 (fun _ => true) true [9, 9] args.toList ds p) :
    ∃ (s t : ByteArray) (d0 d1 : DataW H), args = #[.string s, .string t] ∧ ds = [d0, d1] ∧ s.size ≤ 9223372036854775807 ∧ t.size ≤ 9223372036854775807 := by
  obtain ⟨v0, v1, d0, d1, p0, p1, rfl, rfl, rfl, h0, h1⟩ := trodAll_two hA
  obtain ⟨s, rfl, rfl, rfl, hs⟩ := open_string Try.underlying9 (hval 0 9 v0 rfl rfl) h0
  obtain ⟨t, rfl, rfl, rfl, ht⟩ := open_string Try.underlying9 (hval 1 9 v1 rfl rfl) h1
  unfold maxLen at hs ht
  exact ⟨s, t, _, _, rfl, rfl, by omega, by omega⟩

set_option maxRecDepth 100000 in
theorem linesJoins_lifted (os : Os) (started : os.Started) (H : Type) (enc : TypeId × Value → H) :
    ReturnsInHanded {} Try.checked os 7 .any (Rows.linesJoinsSpec.pre6 enc Try.prog Try.f7 Rows.linesJoinsRow.domain false) (Rows.linesJoinsSpec.post enc Try.prog Try.f7 false true false false) := by
  refine returnsInHanded_of_change (C := Try.checked) Try.own started (by kernel_rfl) Try.func7
    (ChangeSpec.witness6 (enc := enc) (C := Try.checked) false ⟨#[], #[.string .empty, .string .empty], []⟩ 8 (by kernel_rfl) (by kernel_rfl) (by kernel_rfl) (by kernel_rfl)) ?_
  intro W base args ds gs before hval0 hW hcnd _
  have hval : ∀ (j : Nat) t v, Try.f7.params[j]? = some t → args[j]? = some v → Value.okWide Try.prog W .any base t v := hval0
  have hW' := hW
  obtain ⟨p, q, hA0, hV, rfl, hfz, hnd⟩ := hW
  have hA : DataW.TrodAll enc Try.prog W 0 (fun _ => true) true Try.f7.params.toList args.toList ds p := hA0
  rw [Try.params7] at hA hval
  obtain ⟨s, t, d0, d1, rfl, rfl, hs, ht⟩ := open_ss hval hA
  obtain ⟨rfl, rfl⟩ := trodVars_none hV
  clear hA0 hval0
  refine (joinsWalk s t W hs ht).mono fun e W' ⟨he, hb⟩ => ?_
  subst he
  exact ⟨_, rfl, law_post (by kernel_rfl) rfl (by kernel_rfl) rfl hW' hb⟩

theorem linesJoins_holds : Rows.LinesJoinsSaid :=
  OpenClaim.holds_of_wide 7 Try.f7 rfl rfl rfl rfl rfl rfl rfl ⟨rfl, rfl, rfl, rfl, rfl⟩ rfl rfl rfl rfl rfl (by kernel_rfl) Try.func7 (by kernel_rfl)
    (of_decide_eq_true (by kernel_rfl)) (by unfold Func.isWrapper; first | (rw [if_pos (by decide +kernel)]; kernel_rfl) | (rw [if_neg (by decide +kernel)]; exact ⟨rfl, rfl⟩))
    (fun os started H enc _ => linesJoins_lifted os started H enc)

end Go.Proofs.Ytbemlnllhedbpaa
