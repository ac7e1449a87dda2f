/- A text's bytes. SmallSame's walk. -/
import Derived.Test.YtjelgphhlcecoaaGreatDoorJ8
import Derived.Test.YtjelgphhlcecoaaGreatDoorJ47
import Derived.Test.YtjelgphhlcecoaaGreatDoorJ44
import Derived.Lib.QuietBelow
import Derived.BigQuiet
namespace Go.Proofs.YtjelgphhlcecoaaGreatDoor

theorem strT_list (s : ByteArray) : strT s.data.toList = s := by
  apply ByteArray.ext
  simp [strT]

end Go.Proofs.YtjelgphhlcecoaaGreatDoor
namespace Go.Proofs.YtjelgphhlcecoaaGreatDoor
open Go.RowKit Go.Sort Go.Maps

theorem goK_goA {N : List (List Int)} (hr : RgtN N) (h0 : 0 < N.length) (s : Txt) : ∀ i, i ≤ s.length → goK N s i = inI N.length (goA N 0 (s.take i))
  | 0, _ => by rw [goK]; simp [goA, inI_some h0]
  | i + 1, hi => by
    have ih := goK_goA hr h0 s i (by omega)
    have hl : goA N 0 (s.take i) ≤ N.length := goA_le hr _ 0 (by omega)
    have e1 : s.take (i + 1) = s.take i ++ [s[i]] := List.take_succ_eq_append_getElem (by omega)
    have e2 : s.getD i 0 = s[i] := by rw [List.getD_eq_getElem?_getD, List.getElem?_eq_getElem (by omega)]; rfl
    rw [goK_succ, ih, e1, goA_app, e2]
    show _ = inI N.length (nxA N (goA N 0 (s.take i)) (s[i]).toNat)
    rcases Nat.lt_or_ge (goA N 0 (s.take i)) N.length with h | h
    · rw [inI_some h, if_neg (by omega), Int.toNat_natCast, nxA_some hr h (s[i]).toNat_lt]
    · have e3 : goA N 0 (s.take i) = N.length := by omega
      rw [e3, inI_none, if_pos (by omega), nxA_none, inI_none]
theorem accB_do {N : List (List Int)} {A : List Int} (hr : RgtA N A) (s : Txt) : accB N A s = doA N A 0 s := by
  unfold accB
  rw [goB_yes (rgtB_of hr), goK_goA hr.rgt hr.pos s s.length (Nat.le_refl _), List.take_length]
  unfold doA
  have hl : goA N 0 s ≤ N.length := goA_le hr.rgt s 0 (by omega)
  rcases Nat.lt_or_ge (goA N 0 s) N.length with h | h
  · rw [inI_some h, if_neg (by omega), acA_some h, Int.toNat_natCast]
  · have e3 : goA N 0 s = N.length := by omega
    rw [e3, inI_none, if_pos rfl, acA_none]
theorem MkR.does {N : List (List Int)} {A : List Int} (hr : RgtA N A) {M : List (List Int)} {B : List Int} (h : MkR N A M B) (s : Txt) : doA M B 0 s = doA N A 0 s := by
  obtain ⟨al, m, h1, h2, rfl, rfl⟩ := h
  exact mk_does0 h1 hr h2 s
theorem MkR.few {N : List (List Int)} {A : List Int} (hr : RgtA N A) {M : List (List Int)} {B : List Int} (h : MkR N A M B) : M.length ≤ N.length := by
  obtain ⟨al, m, h1, h2, rfl, rfl⟩ := h
  rw [nxM_len]
  exact mk_few h1 hr h2
theorem MkR.again {N : List (List Int)} {A : List Int} (hr : RgtA N A) {M M' : List (List Int)} {B B' : List Int} (h : MkR N A M B) (h' : MkR M B M' B') : M' = M ∧ B' = B := by
  obtain ⟨al, m, h1, h2, rfl, rfl⟩ := h
  obtain ⟨al', m', h1', h2', rfl, rfl⟩ := h'
  exact mk_again h1 hr h2 h1' h2'
theorem MkR.accW {N : List (List Int)} {A : List Int} (hA : AccW A) {M : List (List Int)} {B : List Int} (h : MkR N A M B) : AccW B := by
  obtain ⟨al, m, h1, h2, rfl, rfl⟩ := h
  intro j
  rcases Nat.lt_or_ge j m with hj | hj
  · rw [acM_get al N A m j hj]
    exact hA _
  · rw [List.getD_eq_getElem?_getD, List.getElem?_eq_none (by rw [acM_len]; exact hj)]
    simp
set_option maxRecDepth 20000 in
set_option maxHeartbeats 8000000 in
theorem sameWalk (nv av : Value) (N : List (List Int)) (A : List Int) (s : Txt) (w : World) (hNl : N.length ≤ 9223372036854775807) (hls : s.length ≤ 140737488351232) (hD : Dfa w nv av N A) (hAw : AccW A) (hT : Tab w) :
    Calls Tryz.prog 4 #[.agg #[nv, av], .string (strT s)] w fun e w' => e = .returned (.bool true) ∧ Below w.heap.size w w' := by
  obtain ⟨⟨na, nc, rfl⟩, ⟨va, vc, rfl⟩⟩ := hD.shape
  have hsz := strT_size s
  obtain ⟨W0, hW0⟩ : ∃ W0, w.alloc (.cells #[.slice na N.length nc, .slice va A.length vc] 25) = W0 := ⟨_, rfl⟩
  have hal : Hid (Below w.heap.size w W0) := by rw [← hW0]; exact hid (al' w _)
  have hbk : Hid (W0.heap[w.heap.size]? = some (.cells #[.slice na N.length nc, .slice va A.length vc] 25)) := by rw [← hW0]; exact hid (heap_new w _)
  have GW := hid (wakes9 W0 (hT.keep hal.out))
  have hD0 := hid (hD.keep hal.out)
  have GR := hid (fun u (hu : Below W0.heap.size W0 u) => refRightA _ _ N A u (hD0.out.keep hu) hNl)
  have hcs : Hid (∀ u, Below W0.heap.size W0 u → u.cell? ⟨w.heap.size, 0, none⟩ = some (.slice na N.length nc) ∧ u.cell? ⟨w.heap.size, 1, none⟩ = some (.slice va A.length vc)) := hid (fun u hu => ⟨keep_cell hu (blk_cell hbk.out rfl), keep_cell hu (blk_cell hbk.out rfl)⟩)
  clear hD hT hbk
  cases hr : rgtB N A with
  | false =>
    rw [hr] at GR
    clear hr
    go_enter Tryz.func4, Tryz.ntmps4
    go_wp2_with (first
      | (go_at_call 8; refine GW.out.mono ?_; rintro e w1 ⟨rfl, hb1⟩; obtain ⟨c0, c1⟩ := hcs.out w1 hb1)
      | (go_at_call 13; refine (GR.out w1 hb1).mono ?_; rintro e w2 ⟨rfl, hb2⟩; obtain ⟨d0, d1⟩ := hcs.out w2 (bl_step hb1 hb2)))
    go_ret
    exact ⟨rfl, bl_step hal.out (bl_step hb1 hb2)⟩
  | true =>
    rw [hr] at GR
    have H := hid (rgtA_of hr)
    clear hr
    by_cases h120 : 120 < N.length
    · have hz : (120 : Int) < (N.length : Int) := by omega
      go_enter Tryz.func4, Tryz.ntmps4
      go_wp2_with (first
        | (go_at_call 8; refine GW.out.mono ?_; rintro e w1 ⟨rfl, hb1⟩; obtain ⟨c0, c1⟩ := hcs.out w1 hb1)
        | (go_at_call 13; refine (GR.out w1 hb1).mono ?_; rintro e w2 ⟨rfl, hb2⟩; obtain ⟨d0, d1⟩ := hcs.out w2 (bl_step hb1 hb2)))
      go_ret
      exact ⟨rfl, bl_step hal.out (bl_step hb1 hb2)⟩
    · have hz : ¬ (120 : Int) < (N.length : Int) := by omega
      by_cases h1000 : 1000 < s.length
      · have hz2 : (1000 : Int) < (s.length : Int) := by omega
        go_enter Tryz.func4, Tryz.ntmps4
        go_wp2_with (first
          | (go_at_call 8; refine GW.out.mono ?_; rintro e w1 ⟨rfl, hb1⟩; obtain ⟨c0, c1⟩ := hcs.out w1 hb1)
          | (go_at_call 13; refine (GR.out w1 hb1).mono ?_; rintro e w2 ⟨rfl, hb2⟩; obtain ⟨d0, d1⟩ := hcs.out w2 (bl_step hb1 hb2)))
        go_ret
        exact ⟨rfl, bl_step hal.out (bl_step hb1 hb2)⟩
      · have hz2 : ¬ (1000 : Int) < (s.length : Int) := by omega
        have GM := hid (fun u (hu : Below W0.heap.size W0 u) => makeGood _ _ N A u (hD0.out.keep hu) H.out hAw)
        have GM2 := hid (fun nv' av' M B u (hR : MkR N A M B) (hD' : Dfa u nv' av' M B) => makeGood nv' av' M B u hD' (hR.right H.out) (hR.accW hAw))
        have GA := hid (fun u (hu : Below W0.heap.size W0 u) => acceptsD _ _ N A s u (hD0.out.keep hu).nxt (hD0.out.keep hu).acc (by omega) (by omega))
        have GA2 : Hid (∀ nv' av' M B u, MkR N A M B → Dfa u nv' av' M B → Calls Tryz.prog 14 #[.agg #[nv', av'], .string (strT s)] u fun e w' => e = .returned (.int .i64 (accB N A s)) ∧ Below u.heap.size u w') := hid (fun nv' av' M B u hR hD' => by
          have := acceptsD nv' av' M B s u hD'.nxt hD'.acc (by have := hR.few H.out; omega) (by omega)
          rw [accB_do (hR.right H.out), hR.does H.out, ← accB_do H.out] at this
          exact this)
        have GS : Hid (∀ nv1 av1 nv2 av2 M B M2 B2 u, MkR N A M B → MkR M B M2 B2 → Dfa u nv1 av1 M B → Dfa u nv2 av2 M2 B2 → Calls Tryz.prog 12 #[.agg #[nv1, av1], .agg #[nv2, av2]] u fun e w' => e = .returned (.bool true) ∧ Below u.heap.size u w') := hid (fun nv1 av1 nv2 av2 M B M2 B2 u hR hR2 hD1 hD2 => by
          obtain ⟨rfl, rfl⟩ := hR.again H.out hR2
          have hr2 := hR.right H.out
          exact refSameD nv1 av1 nv2 av2 _ _ u hD1.nxt hD1.acc hD2.nxt hD2.acc (by have := hr2.few; omega) (by rw [← hr2.len]; have := hr2.few; omega) (fun j hj => by rw [(hr2.rgt j hj).1]; omega))
        have hle : Hid (∀ M B, MkR N A M B → (M.length : Int) ≤ (N.length : Int)) := hid (fun M B hR => by have := hR.few H.out; omega)
        generalize accB N A s = ac at GA GA2
        clear hls hNl
        go_enter Tryz.func4, Tryz.ntmps4
        go_wp2_with (first
          | (go_at_call 8; refine GW.out.mono ?_; rintro e w1 ⟨rfl, hb1⟩; obtain ⟨c0, c1⟩ := hcs.out w1 hb1)
          | (go_at_call 13; refine (GR.out w1 hb1).mono ?_; rintro e w2 ⟨rfl, hb2⟩; have h2 := hid (bl_step hb1 hb2); obtain ⟨d0, d1⟩ := hcs.out w2 h2.out)
          | (go_at_call 10; refine (GM2.out _ _ _ _ _ hR3.out hD4.out).mono ?_; rintro e w5 ⟨nv5, av5, M5, B5, rfl, hR5, hD5, hb5⟩; obtain ⟨⟨na5, nc5, rfl⟩, ⟨va5, vc5, rfl⟩⟩ := hD5.shape; have hR5 := hid hR5; have hD5 := hid hD5; have hal5 := hid (al' w5 (.cells #[.slice na5 M5.length nc5, .slice va5 B5.length vc5] 25)); have hk5 := hid (heap_new w5 (.cells #[.slice na5 M5.length nc5, .slice va5 B5.length vc5] 25)); have hb5 := hid hb5)
          | (go_at_call 10; refine (GM.out w2 h2.out).mono ?_; rintro e w3 ⟨nv3, av3, M3, B3, rfl, hR3, hD3, hb3⟩; obtain ⟨⟨na3, nc3, rfl⟩, ⟨va3, vc3, rfl⟩⟩ := hD3.shape; have hR3 := hid hR3; have hal3 := hid (al' w3 (.cells #[.slice na3 M3.length nc3, .slice va3 B3.length vc3] 25)); have hk3 := hid (heap_new w3 (.cells #[.slice na3 M3.length nc3, .slice va3 B3.length vc3] 25)); have hD4 := hid (hD3.keep hal3.out); have h3 := hid (bl_step (bl_step h2.out hb3) hal3.out); obtain ⟨m0, m1, -⟩ := cells2m hk3.out))
        have hD6 := hid (hD5.out.keep hal5.out)
        have hb56 := hid (bl_step hb5.out hal5.out)
        have hD36 := hid (hD4.out.keep hb56.out)
        have h6 := hid (bl_step h3.out hb56.out)
        have hk36 := hid (hs_keep hk3.out hb56.out)
        generalize w5.alloc (.cells #[.slice na5 M5.length nc5, .slice va5 B5.length vc5] 25) = W6 at hD6 hb56 hD36 h6 hk36 hk5 ⊢
        clear c0 c1 d0 d1 m0 m1 hal5
        obtain ⟨e0, e1⟩ := hcs.out W6 h6.out
        obtain ⟨m0, m1, -⟩ := cells2m hk36.out
        obtain ⟨n0, n1, -⟩ := cells2m hk5.out
        have hlez := hle.out _ _ hR3.out
        have k0 := cell_regrown e0
        have k1 := cell_regrown e1
        have k2 := cell_regrown m0
        have k3 := cell_regrown m1
        have k4 := cell_regrown n0
        have k5 := cell_regrown n1
        have cS : Hid (∀ d os, Calls Tryz.prog 12 #[.agg #[.slice na3 M3.length nc3, .slice va3 B3.length vc3], .agg #[.slice na5 M5.length nc5, .slice va5 B5.length vc5]] (grow (redrawn W6 d) os) fun e w'' => e = .returned (.bool true) ∧ ∃ p : Regrown, w'' = grow (redrawn W6 p.d) p.os) := hid (fun d os => Calls.regrown_of (GS.out _ _ _ _ _ _ _ _ _ hR3.out hR5.out (hD36.out.keep (below_regrown W6 d os)) (hD6.out.keep (below_regrown W6 d os))))
        have cM : Hid (∀ d os, Calls Tryz.prog 14 #[.agg #[.slice na3 M3.length nc3, .slice va3 B3.length vc3], .string (strT s)] (grow (redrawn W6 d) os) fun e w'' => e = .returned (.int .i64 ac) ∧ ∃ p : Regrown, w'' = grow (redrawn W6 p.d) p.os) := hid (fun d os => Calls.regrown_of (GA2.out _ _ _ _ _ hR3.out (hD36.out.keep (below_regrown W6 d os))))
        have cN : Hid (∀ d os, Calls Tryz.prog 14 #[.agg #[.slice na N.length nc, .slice va A.length vc], .string (strT s)] (grow (redrawn W6 d) os) fun e w'' => e = .returned (.int .i64 ac) ∧ ∃ p : Regrown, w'' = grow (redrawn W6 p.d) p.os) := hid (fun d os => Calls.regrown_of (GA.out _ (bl_step h6.out (below_regrown W6 d os))))
        have cA : Hid (∀ x, (x = .agg #[.slice na3 M3.length nc3, .slice va3 B3.length vc3] ∨ x = .agg #[.slice na N.length nc, .slice va A.length vc]) → ∀ d os, Calls Tryz.prog 14 #[x, .string (strT s)] (grow (redrawn W6 d) os) fun e w'' => e = .returned (.int .i64 ac) ∧ ∃ p : Regrown, w'' = grow (redrawn W6 p.d) p.os) := hid (fun x hx d os => by
          rcases hx with rfl | rfl
          · exact cM.out d os
          · exact cN.out d os)
        clear GS GA GA2 GM GM2 GR GW cM cN
        refine wp_region_quiet_below (by kernel_rfl) (by kernel_rfl) ?_
        iterate 14 (first | go_big_quiet_step (exact cS.out _ _) | quiet_step (exact cS.out _ _))
        repeat (first | go_big_quiet_step (exact cA.out _ (by first | exact Or.inl rfl | exact Or.inr rfl) _ _) | quiet_step (exact cA.out _ (by first | exact Or.inl rfl | exact Or.inr rfl) _ _))
        refine wpQuiet_nil ?_
        intro _ hw'
        obtain ⟨⟨dq, osq⟩, hw''⟩ := hw'
        subst hw''
        go_wp2
        go_ret
        exact ⟨by simp, bl_step hal.out (bl_step h6.out (below_regrown W6 dq osq))⟩

end Go.Proofs.YtjelgphhlcecoaaGreatDoor
