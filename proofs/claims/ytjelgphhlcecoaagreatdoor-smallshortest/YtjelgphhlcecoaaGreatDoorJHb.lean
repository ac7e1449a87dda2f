/- small.Shortest: the least text that is accepted by a rule, or none. topiaryref09.Shortest's memory: a row of texts and a row of truths. -/
import Derived.Test.YtjelgphhlcecoaaGreatDoorJHa
import Derived.Test.YtjelgphhlcecoaaGreatDoorJ36
import Derived.Test.YtjelgphhlcecoaaGreatDoorJ20
namespace Go.Proofs.YtjelgphhlcecoaaGreatDoor
open Go.RowKit Go.Maps

/-- what Shortest answers of a right automaton -/
def ShR (N : List (List Int)) (A : List Int) (r : Int) (t : Txt) (z : Int) : Prop := (z = 0 ∧ BestT N A r t ∧ t.length ≤ N.length) ∨ (z = 4 ∧ t = [] ∧ ∀ u, doA N A 0 u ≠ r)
set_option maxRecDepth 20000 in
theorem conv_one (b : Nat) (hb : b < 256) (w : World) : (convert 60 9 (.slice (some ⟨w.heap.size, 0, none⟩) 1 1)).run Tryz.prog (w.alloc (.cells #[.int .u8 (b : Int)] 5)) = .ok (.string (strT [UInt8.ofNat b])) (w.alloc (.cells #[.int .u8 (b : Int)] 5)) := by
  refine run_convert_bytes_back _ 60 9 5 _ 1 [UInt8.ofNat b] Tryz.underlying60 Tryz.underlying5 Tryz.underlying9 ?_
  intro j hj
  have hj0 : j = 0 := by simp at hj; omega
  subst hj0
  simp [Addr.add, ofNat_toNat hb]

set_option maxRecDepth 20000 in
set_option maxHeartbeats 8000000 in
theorem shortBad (nv av : Value) (N : List (List Int)) (A : List Int) (r : Int) (w : World) (hD : Dfa w nv av N A) (hl : N.length ≤ 9223372036854775807) (hr : rgtB N A = false ∨ r < 0) :
    Calls Tryz.prog 16 #[.agg #[nv, av], .int .i64 r] w fun e w' => e = .returned (.tuple #[.string ⟨#[]⟩, .int .i64 10]) ∧ Below w.heap.size w w' := by
  obtain ⟨⟨na, nc, rfl⟩, ⟨aa, ac, rfl⟩⟩ := hD.shape
  obtain ⟨W0, hW0⟩ : ∃ W0, w.alloc (.cells #[.slice na N.length nc, .slice aa A.length ac] 25) = W0 := ⟨_, rfl⟩
  have hb0 : Hid (Below w.heap.size w W0) := by rw [← hW0]; exact hid (al' w _)
  have hz0 : Hid (W0.heap[w.heap.size]? = some (.cells #[.slice na N.length nc, .slice aa A.length ac] 25)) := by rw [← hW0]; exact hid (heap_new w _)
  obtain ⟨d0, d1, -⟩ := cells2m hz0.out
  have GR := hid (rightA _ _ N A W0 (hD.keep hb0.out) hl)
  clear hD hl
  cases h1 : rgtB N A with
  | false =>
    rw [h1] at GR
    clear hr
    go_enter Tryz.func16, Tryz.ntmps16
    go_wp2_with (go_at_call 20; refine GR.out.mono ?_; clear GR; rintro e w2 ⟨rfl, hb2⟩; have hb2 := hid hb2)
    go_ret2
    exact ⟨rfl, bl_step hb0.out hb2.out⟩
  | true =>
    have h2 : r < 0 := hr.resolve_left (by rw [h1]; simp)
    rw [h1] at GR
    clear hr
    go_enter Tryz.func16, Tryz.ntmps16
    go_wp2_with (go_at_call 20; refine GR.out.mono ?_; clear GR; rintro e w2 ⟨rfl, hb2⟩; have hb2 := hid hb2)
    go_ret2
    exact ⟨rfl, bl_step hb0.out hb2.out⟩

set_option maxRecDepth 20000 in
set_option maxHeartbeats 16000000 in
theorem shortGood (nv av : Value) (N : List (List Int)) (A : List Int) (r : Int) (w : World) (hD : Dfa w nv av N A) (hr : RgtA N A) (hr0 : 0 ≤ r) :
    Calls Tryz.prog 16 #[.agg #[nv, av], .int .i64 r] w fun e w' => ∃ t z, e = .returned (.tuple #[.string (strT t), .int .i64 z]) ∧ ShR N A r t z ∧ Below w.heap.size w w' := by
  obtain ⟨⟨na, nc, rfl⟩, ⟨aa, ac, rfl⟩⟩ := hD.shape
  obtain ⟨W0, hW0⟩ : ∃ W0, w.alloc (.cells #[.slice na N.length nc, .slice aa A.length ac] 25) = W0 := ⟨_, rfl⟩
  have hb0 : Hid (Below w.heap.size w W0) := by rw [← hW0]; exact hid (al' w _)
  have hz0 : Hid (W0.heap[w.heap.size]? = some (.cells #[.slice na N.length nc, .slice aa A.length ac] 25)) := by rw [← hW0]; exact hid (heap_new w _)
  have hD0 := hid (hD.keep hb0.out)
  have hbx : Hid (∀ u, Below W0.heap.size W0 u → u.cell? ⟨w.heap.size, 0, none⟩ = some (.slice na N.length nc) ∧ u.cell? ⟨w.heap.size, 1, none⟩ = some (.slice aa A.length ac)) := hid (fun u hu => by
    obtain ⟨d0, d1, -⟩ := cells2m (hs_keep hz0.out hu)
    exact ⟨d0, d1⟩)
  have GR := hid (rightA _ _ N A W0 hD0.out (by have := hr.few; omega))
  rw [rgtB_of hr] at GR
  have hrH := hid hr
  have hpos := hr.pos
  have hf := hr.few
  have hlen := hr.len
  obtain ⟨n, hn⟩ : ∃ n : Nat, Hid (N.length = n) := ⟨_, hid rfl⟩
  have hmk := run_make_row' (P := Tryz.prog) 43 4 (.bool false) 1 Tryz.underlying43 Tryz.infoBo rfl .i64 .i64 n (by have := hn.out; omega) (by have := hn.out; omega)
  have hnz : Hid (0 < n ∧ n ≤ 240) := hid (by have := hn.out; omega)
  obtain ⟨iP, hiP, zP0, zP1, zP2⟩ := info_parts Tryz.infoWy
  rw [hn.out] at hbx hz0 GR hW0 ⊢
  have hAl : Hid (A.length = n) := hid (by have := hn.out; omega)
  rw [hAl.out] at hbx hz0 GR hW0 ⊢
  obtain ⟨c0, c1⟩ := hbx.out W0 (Below.refl _ _)
  have hnp : (0 : Int) < (n : Int) := by have := hnz.out; omega
  have hn0 : n ≤ 240 := hnz.out.2
  have hrf : ¬ r < 0 := by omega
  rw [hn.out, hAl.out] at hD0
  clear hD hr hlen hf hpos
  go_enter Tryz.func16, Tryz.ntmps16
  go_wp2_with (go_at_call 20; refine GR.out.mono ?_; clear GR; rintro e w2 ⟨rfl, hb2⟩; have hb2 := hid hb2; obtain ⟨x0, x1⟩ := hbx.out w2 hb2.out; obtain ⟨X1, hX1⟩ : ∃ x, w2.alloc (.cells (madeCells #[.bool false] n) 4) = x := ⟨_, rfl⟩; obtain ⟨X2, hX2⟩ : ∃ x, X1.setCell ⟨w2.heap.size, 0, none⟩ (.bool true) = x := ⟨_, rfl⟩; have hS := hid (ShO.start (w0 := W0) hb2.out hnz.out.1 (by omega) hX1 hX2); obtain ⟨y0, y1⟩ := hS.out.2.1; obtain ⟨y2, y3⟩ := hbx.out X1 hS.out.2.2.1; obtain ⟨y4, y5⟩ := hbx.out X2 hS.out.2.2.2.1)
  have hSO := hid hS.out.1
  have hbe : Hid (∀ u, Below W0.heap.size W0 u → Below w.heap.size w u) := hid (fun u hu => bl_step hb0.out hu)
  clear hS hX1 hX2 y0 y1 y2 y3 y4 y5 x0 x1 c0 c1 hmk hb2 hW0 hz0
  generalize X2.alloc (.cells #[.int .i64 0, .string ⟨#[]⟩] 58) = WS at hSO ⊢
  generalize w2.heap.size = br at hSO ⊢
  generalize X2.heap.size = bz at hSO ⊢
  go_loopw [7, 8] (fun pv i wr => ∃ (k : Nat) (fl : List Bool), k ≤ n ∧ i = .int .i64 (k : Int) ∧ Hid (ShO n br W0 wr pv (wayW N k) fl) ∧ Hid (∀ j, j < k → j < (wayW N j).length) ∧ Hid (∀ j, j < k → acA N A ((wayW N j).getD j (0, [])).1 ≠ r)) (fun _ i _ => n + 1 - (intOf i).toNat)
  case atStart => exact ⟨0, _, by omega, rfl, hSO, hid (fun j hj => absurd hj (Nat.not_lt_zero _)), hid (fun j hj => absurd hj (Nat.not_lt_zero _))⟩
  case round =>
    obtain ⟨k, fl, hkn, rfl, hO, hon, hno⟩ := hrel
    obtain ⟨X, hWI, hXk, -⟩ := wayW_is hrH.out.pos k hon.out
    have hWI := hid hWI
    have hXk := hid hXk
    have hfew : (wayW N k).length ≤ n := by rw [← hn.out]; exact hWI.out.few
    obtain ⟨L, hL⟩ : ∃ L, Hid ((wayW N k).length = L) := ⟨_, hid rfl⟩
    rw [hL.out] at hfew
    obtain ⟨va, vc, hve⟩ := own_shape hO.out.pr
    rw [hL.out] at hve
    subst hve
    by_cases hlt : k < L
    · have hltz : (k : Int) < (L : Int) := by omega
      have hkl : Hid (k < (wayW N k).length) := hid (by rw [hL.out]; exact hlt)
      obtain ⟨g, vc', hpe, q0, q1⟩ := hO.out.way hkl.out
      rw [hL.out] at hpe
      injection hpe with hpe _ hpc
      subst hpe hpc
      obtain ⟨p, hp⟩ : ∃ p, Hid ((wayW N k).getD k (0, []) = p) := ⟨_, hid rfl⟩
      rw [hp.out] at q0 q1
      have hpm : Hid (p ∈ wayW N k) := hid (by
        rw [← hp.out, List.getD_eq_getElem?_getD, List.getElem?_eq_getElem hkl.out]
        exact List.getElem_mem _)
      obtain ⟨i, t⟩ := p
      have hin : i < n := by rw [← hn.out]; exact (hWI.out.run _ hpm.out).2
      have htl : t.length ≤ k := by have := hWI.out.len k hkl.out; rw [hp.out] at this; exact this
      have hiz : (i : Int) < (n : Int) := by omega
      obtain ⟨d0, d1⟩ := hbx.out wr hO.out.low
      have hal1 := hid (al' wr (.cells #[.int .i64 (i : Int), .string (strT t)] 58))
      obtain ⟨WP, hWP⟩ : ∃ x, wr.alloc (.cells #[.int .i64 (i : Int), .string (strT t)] 58) = x := ⟨_, rfl⟩
      rw [hWP] at hal1
      have hkP : Hid (WP.heap[wr.heap.size]? = some (.cells #[.int .i64 (i : Int), .string (strT t)] 58)) := by rw [← hWP]; exact hid (heap_new wr _)
      obtain ⟨e0, e1, -⟩ := cells2m hkP.out
      have hOP := hid (hO.out.keep hal1.out)
      obtain ⟨f0, f1⟩ := hbx.out WP hOP.out.low
      have hDP := hid (hD0.out.keep hOP.out.low)
      obtain ⟨b3, o3, e3, hb3, hc3⟩ := nums_cell hDP.out.acc i (by rw [hAl.out]; exact hin)
      subst e3
      have hacA : acA N A i = A.getD i 0 := acA_some (by rw [hn.out]; exact hin)
      by_cases hacc : A.getD i 0 = r
      · have hfin := hid (way_best hrH.out.pos hr0 hon.out hno.out hkl.out (A := A) (r := r) (by rw [hp.out]; show acA N A i = r; rw [hacA]; exact hacc))
        rw [hacc] at hc3
        clear hXk hWI
        go_wp2
        go_ret2
        exact ⟨t, 0, rfl, Or.inl ⟨rfl, by have := hfin.out.1; rw [hp.out] at this; exact this, by rw [hn.out]; omega⟩, hbe.out _ hOP.out.low⟩
      · have haf : (A.getD i 0 == r) = false := beq_eq_false_iff_ne.2 hacc
        generalize A.getD i 0 = acv at *
        obtain ⟨b1, o1, x, e1', hb1, hc1, hN1⟩ := numss_get hD0.out.nxt (show i < N.length by rw [hn.out]; exact hin)
        have hc1 := keep_cell hOP.out.low hc1
        subst e1'
        have hlen := (hrH.out.rgt i (by rw [hn.out]; exact hin)).1
        obtain ⟨a4, c4, e4⟩ := nums_shape' hN1
        subst e4
        rw [hlen] at hc1
        have hN1 := hid hN1
        have hWr : Hid (wr.heap.size ≠ br ∧ (Value.slice (some ⟨g, 0, none⟩) L vc).ownBlock ≠ some wr.heap.size) := hid ⟨fun e => by have := (hO.out.mr.lt br rfl).2; omega, fun e => by have := (hO.out.pr.lt _ e).2; omega⟩
        have hrow := hid (rowW_is (hWI.out.more (hXk.out hkl.out)) hkl.out rfl)
        rw [hp.out] at hrow
        have hac1 : Hid (∀ j, j < k + 1 → acA N A ((wayW N j).getD j (0, [])).1 ≠ r) := hid (fun j hj => by
          rcases Nat.lt_or_ge j k with h9 | h9
          · exact hno.out j h9
          · obtain rfl : j = k := by omega
            rw [hp.out]
            show acA N A i ≠ r
            rw [hacA]
            exact hacc)
        have hon1 : Hid (∀ j, j < k + 1 → j < (wayW N j).length) := hid (fun j hj => by
          rcases Nat.lt_or_ge j k with h9 | h9
          · exact hon.out j h9
          · obtain rfl : j = k := by omega
            exact hkl.out)
        clear hno hon hacA hXk
        go_wp2_with fail
        clear q0 q1 d0 d1 e0 e1 f0 f1 hc1 hc3 hb1 hb3 hWP hal1
        generalize wr.heap.size = pb at *
        have hOP : Hid (ShO n br W0 WP (.slice (some ⟨g, 0, none⟩) L vc) (rowW N (i, t) (wayW N k) 0) fl) := hOP
        go_loopw [7, 54] (fun pv x wr => ∃ (b : Nat) (fl : List Bool), b ≤ 256 ∧ x = .int .i64 (b : Int) ∧ Hid (ShO n br W0 wr pv (rowW N (i, t) (wayW N k) b) fl) ∧ Hid (wr.heap[pb]? = some (.cells #[.int .i64 (i : Int), .string (strT t)] 58)) ∧ Hid (pv.ownBlock ≠ some pb)) (fun _ x _ => 256 - (intOf x).toNat)
        case atStart => exact ⟨0, fl, by omega, rfl, hOP, hkP, hid hWr.out.2⟩
        case round =>
          obtain ⟨b, fl, hb, rfl, hO6, hk6, hv6⟩ := hrel
          by_cases hbt : b < 256
          · have hbz : (b : Int) < 256 := by omega
            obtain ⟨b2, o2, c2, e2, hb2, hc2⟩ := nums_get (hN1.out.keep hO6.out.low) (c := b) (by omega)
            injection e2 with e2 _ e2c
            subst e2 e2c
            have hnx := nxA_some hrH.out.rgt (show i < N.length by rw [hn.out]; exact hin) hbt
            rw [← hnx] at hc2
            have hold := hid (rowW_old (N := N) (p := (i, t)) (W := wayW N k) (b := b))
            have hnew := hid (rowW_new (N := N) (p := (i, t)) (W := wayW N k) (b := b))
            have hrb := hid (hrow.out b hb).1
            have hmk := hid (fun x hx => hO6.out.mrk x hx)
            obtain ⟨a5, c5, hve⟩ := own_shape hO6.out.pr
            have hfw : (rowW N (i, t) (wayW N k) b).length ≤ n := by rw [← hn.out]; exact hrb.out.few
            obtain ⟨M, hM⟩ : ∃ M, Hid ((rowW N (i, t) (wayW N k) b).length = M) := ⟨_, hid rfl⟩
            rw [hM.out] at hve hfw
            subst hve
            have hnle := nxA_le hrH.out.rgt i hbt
            have hhold : Hid (¬ nxA N i b < N.length ∨ nxA N i b ∈ (rowW N (i, t) (wayW N k) b).map Prod.fst → rowW N (i, t) (wayW N k) (b + 1) = rowW N (i, t) (wayW N k) b) := hid hold.out
            have hhnew : Hid (nxA N i b < N.length → ¬ nxA N i b ∈ (rowW N (i, t) (wayW N k) b).map Prod.fst → rowW N (i, t) (wayW N k) (b + 1) = rowW N (i, t) (wayW N k) b ++ [(nxA N i b, t ++ [UInt8.ofNat b])]) := hid hnew.out
            clear hold hnew hnx
            rw [hn.out] at hc2 hnle hhold hhnew
            generalize nxA N i b = to at *
            rcases Nat.lt_or_ge to n with hto | hto
            · rw [inI_some hto] at hc2
              have hton : ((to : Int) == -1) = false := by rw [beq_eq_false_iff_ne]; omega
              have htoz : (to : Int) < (n : Int) := by omega
              obtain ⟨u0, u1⟩ := hO6.out.cell hto
              cases hfl : fl.getD to false with
              | true =>
                rw [hfl] at u0
                have hO7 : Hid (ShO n br W0 wr (.slice a5 M c5) (rowW N (i, t) (wayW N k) (b + 1)) fl) := hid (by
                  rw [hhold.out (Or.inr ((hmk.out to hto).1 hfl))]
                  exact hO6.out)
                clear hfl hmk hhold hhnew
                go_wp2
                go_roundw
                case rel => exact ⟨b + 1, fl, by omega, by go_num, hO7, hk6, hv6⟩
                case measure => simp [intOf]; omega
              | false =>
                rw [hfl] at u0
                have hnin : ¬ to ∈ (rowW N (i, t) (wayW N k) b).map Prod.fst := fun e => by have := (hmk.out to hto).2 e; rw [hfl] at this; cases this
                have hnw := hid (hhnew.out hto hnin)
                obtain ⟨W1, hW1⟩ : ∃ x, wr.setCell ⟨br, to, none⟩ (.bool true) = x := ⟨_, rfl⟩
                have hmark := hid (hO6.out.mark to)
                rw [hW1] at hmark
                have hkk1 : Hid (W1.heap[pb]? = some (.cells #[.int .i64 (i : Int), .string (strT t)] 58)) := hid (by rw [← hW1, Below.heap_setCell wr ⟨br, to, none⟩ _ pb hWr.out.1]; exact hk6.out)
                obtain ⟨W2, hW2⟩ : ∃ x, W1.alloc (.cells #[.int .u8 (b : Int)] 5) = x := ⟨_, rfl⟩
                have hb12 : Hid (Below W1.heap.size W1 W2) := by rw [← hW2]; exact hid (al' W1 _)
                have hcv := conv_one b hbt W1
                rw [hW2] at hcv
                obtain ⟨T1, hT1⟩ : ∃ x, strT [UInt8.ofNat b] = x := ⟨_, rfl⟩
                have hT1s : T1.size = 1 := by rw [← hT1, strT_size]; rfl
                rw [hT1] at hcv
                obtain ⟨S, hS⟩ : ∃ x, strT t ++ T1 = x := ⟨_, rfl⟩
                have hSe : Hid (S = strT (t ++ [UInt8.ofNat b])) := hid (by rw [← hS, ← hT1, strT_app])
                have hts : (strT t).size ≤ 240 := by rw [strT_size]; omega
                have hwr8 : IntKind.u8.wrap (b : Int) = (b : Int) := by rw [IntKind.wrap_u8]; omega
                obtain ⟨g0, g1, -⟩ := cells2m hkk1.out
                have hb13 := hid (bl_step hb12.out (al' W2 (.cells #[.int .i64 (to : Int), .string S] 58)))
                have hpr : Hid ((W2.alloc (.cells #[.int .i64 (to : Int), .string S] 58)).ownsRow W0.heap.size 58 2 (.slice a5 M c5) M ((rowW N (i, t) (wayW N k) b).flatMap wyC)) := hid (by
                  have h9 := own_below hmark.out.2.1 hb13.out
                  rw [hM.out] at h9
                  exact h9)
                have hsz3 : Hid (W0.heap.size ≤ (W2.alloc (.cells #[.int .i64 (to : Int), .string S] 58)).heap.size) := hid (bl_step hmark.out.2.2 hb13.out).size
                have hk3 := hid (hs_keep hkk1.out hb13.out)
                have hpush : Hid (∀ g cap w', w'.ownsRow W0.heap.size 58 2 (.slice (some ⟨g, 0, none⟩) (M + 1) cap) (M + 1) ((rowW N (i, t) (wayW N k) b).flatMap wyC ++ [.int .i64 (to : Int), .string S]) → (W2.alloc (.cells #[.int .i64 (to : Int), .string S] 58)).grownBy w' (Value.slice a5 M c5).ownBlock → ((Value.slice a5 M c5).ownBlock = some g ∨ g = (W2.alloc (.cells #[.int .i64 (to : Int), .string S] 58)).heap.size) → ShO n br W0 w' (.slice (some ⟨g, 0, none⟩) (M + 1) cap) (rowW N (i, t) (wayW N k) (b + 1)) (fl.set to true) ∧ w'.heap[pb]? = some (.cells #[.int .i64 (i : Int), .string (strT t)] 58) ∧ (Value.slice (some ⟨g, 0, none⟩) (M + 1) cap).ownBlock ≠ some pb) := hid (fun g cap w' h1 h2 h3 => by
                  rw [hSe.out] at h1
                  have hq := blk_lt hk3.out
                  refine ⟨?_, (Kept.of_grown h2).blk hk3.out (fun e => hv6.out e), fun e => ?_⟩
                  · rw [hnw.out]
                    have h4 := hO6.out.push (to := to) (t := t ++ [UInt8.ofNat b]) hto (u := W2.alloc (.cells #[.int .i64 (to : Int), .string S] 58)) (by rw [hW1]; exact hb13.out) (w' := w') (g := g) (cap := cap) (by rw [hM.out]; exact h1) h2 h3
                    rw [hM.out] at h4
                    exact h4
                  · have e1 : g = pb := by injection e
                    subst e1
                    rcases h3 with h5 | h5
                    · exact hv6.out h5
                    · omega)
                clear hfl hmk hhold hhnew hnin hmark hkk1 hk3 hb13 hb12 hT1
                go_wp2_with (at_builtin; refine wpList_append_lies _ (by rfl) _ _ _ (by rfl) W0.heap.size 58 iP (.agg #[.int .i64 0, .string ⟨#[]⟩]) 2 24 Tryz.underlying59 hiP zP0 zP1 zP2 rfl (by decide) (.slice a5 M c5) M ((rowW N (i, t) (wayW N k) b).flatMap wyC) (by rfl) hpr.out ⟨W2.heap.size, 0, none⟩ 1 1 [.int .i64 (to : Int), .string S] (by rfl) (by rfl) (World.news_of_block (heap_new W2 (.cells #[.int .i64 (to : Int), .string S] 58))) (by simp [Value.oneCell']) (by omega) (by (unfold maxLen); omega) (by omega) hsz3.out (W2.alloc (.cells #[.int .i64 (to : Int), .string S] 58)).heap.size rfl ?_; intro g7 c7 w7 hown7 hgrow7 hat7 hlt7; have hP7 := hid (hpush.out g7 c7 w7 hown7 hgrow7 hat7))
                go_wp2
                go_roundw
                case rel => exact ⟨b + 1, fl.set to true, by omega, by go_num, hid hP7.out.1, hid hP7.out.2.1, hid hP7.out.2.2⟩
                case measure => simp [intOf]; omega
            · obtain rfl : to = n := by omega
              rw [inI_none] at hc2
              have hO7 : Hid (ShO to br W0 wr (.slice a5 M c5) (rowW N (i, t) (wayW N k) (b + 1)) fl) := hid (by
                rw [hhold.out (Or.inl (Nat.lt_irrefl _))]
                exact hO6.out)
              clear hmk hhold hhnew
              go_wp2
              go_roundw
              case rel => exact ⟨b + 1, fl, by omega, by go_num, hO7, hk6, hv6⟩
              case measure => simp [intOf]; omega
          · have hbz : ¬ (b : Int) < 256 := by omega
            obtain rfl : b = 256 := by omega
            have e9 : rowW N (i, t) (wayW N k) 256 = wayW N (k + 1) := by rw [wayW, hp.out]
            rw [e9] at hO6
            go_wp2
            go_roundw
            case rel => exact ⟨k + 1, fl, by omega, by go_num, hO6, hon1, hac1⟩
            case measure => simp [intOf]; omega
    · have hltz : ¬ (k : Int) < (L : Int) := by omega
      have hfin := hid (way_none hrH.out.pos hr0 hon.out hno.out (by rw [hL.out]; omega))
      go_wp2
      go_ret2
      exact ⟨[], 4, rfl, Or.inr ⟨rfl, rfl, hfin.out⟩, hbe.out _ hO.out.low⟩

end Go.Proofs.YtjelgphhlcecoaaGreatDoor
namespace Go.Proofs.YtjelgphhlcecoaaGreatDoor
open Go.RowKit Go.Maps

theorem own_str_put {w : World} {B g c n k : Nat} {l : List Txt} (T : Txt) (h : OwnStr w B (.slice (some ⟨g, 0, none⟩) n c) l) (hn : n = l.length) : OwnStr (w.setCell ⟨g, k, none⟩ (.string (strT T))) B (.slice (some ⟨g, 0, none⟩) n c) (l.set k T) := by
  subst hn
  have h1 := (h.stored k (.string (strT T))).1
  unfold OwnStr
  rw [List.length_set, strCells, List.map_set]
  exact h1
structure RsP (n : Nat) (W0 w : World) (bt ba : Nat) (tx : List Txt) (fl : List Bool) : Prop where
  t : OwnStr w W0.heap.size (.slice (some ⟨bt, 0, none⟩) n n) tx
  f : OwnT w W0.heap.size (.slice (some ⟨ba, 0, none⟩) n n) fl
theorem RsP.fl_len {n : Nat} {W0 w : World} {bt ba : Nat} {tx : List Txt} {fl : List Bool} (h : RsP n W0 w bt ba tx fl) : fl.length = n := ownT_len (m := n) (r := ba) h.f
theorem RsP.tx_len {n : Nat} {W0 w : World} {bt ba : Nat} {tx : List Txt} {fl : List Bool} (h : RsP n W0 w bt ba tx fl) : tx.length = n := by
  obtain ⟨a, c, e⟩ := own_shape h.t
  injection e with _ e _
  exact e.symm
theorem RsP.keep {n : Nat} {W0 w u : World} {bt ba : Nat} {tx : List Txt} {fl : List Bool} (h : RsP n W0 w bt ba tx fl) (hu : Below w.heap.size w u) : RsP n W0 u bt ba tx fl := ⟨own_below h.t hu, own_below h.f hu⟩
theorem RsP.other {n : Nat} {W0 w : World} {bt ba : Nat} {tx : List Txt} {fl : List Bool} (h : RsP n W0 w bt ba tx fl) {b : Nat} (h1 : b ≠ bt) (h2 : b ≠ ba) (k : Nat) (v : Value) : RsP n W0 (w.setCell ⟨b, k, none⟩ v) bt ba tx fl :=
  ⟨own_set h.t (fun e => h1 (by injection e with e; exact e.symm)), own_set h.f (fun e => h2 (by injection e with e; exact e.symm))⟩
theorem RsP.flag {n : Nat} {W0 w : World} {bt ba : Nat} {tx : List Txt} {fl : List Bool} (h : RsP n W0 w bt ba tx fl) {x : Nat} (hx : x < n) : w.cell? ⟨ba, x, none⟩ = some (.bool (fl.getD x false)) ∧ w.frozen? ⟨ba, x, none⟩ = false := by
  have hl := h.fl_len
  have h2 : w.ownsRow W0.heap.size 4 1 (.slice (some ⟨ba, 0, none⟩) n n) n (fl.map Value.bool) := by
    have h9 := h.f
    unfold OwnT at h9
    rw [hl] at h9
    exact h9
  have h3 := h2.cellAt x (by omega)
  rw [List.getElem?_map, List.getElem?_eq_getElem (by omega)] at h3
  exact ⟨by rw [h3, getD_el (show x < fl.length by omega)]; rfl, h2.frozenAt x⟩
theorem RsP.text {n : Nat} {W0 w : World} {bt ba : Nat} {tx : List Txt} {fl : List Bool} (h : RsP n W0 w bt ba tx fl) {x : Nat} (hx : x < n) : w.cell? ⟨bt, x, none⟩ = some (.string (strT (tx.getD x []))) ∧ w.frozen? ⟨bt, x, none⟩ = false := by
  have hl := h.tx_len
  have h2 : w.ownsRow W0.heap.size 9 1 (.slice (some ⟨bt, 0, none⟩) n n) n (strCells tx) := by
    have h9 := h.t
    unfold OwnStr at h9
    rw [hl] at h9
    exact h9
  have h3 := h2.cellAt x (by omega)
  unfold strCells at h3
  rw [List.getElem?_map, List.getElem?_eq_getElem (by omega)] at h3
  exact ⟨by rw [h3, getD_el (show x < tx.length by omega)]; rfl, h2.frozenAt x⟩
theorem RsP.put {n : Nat} {W0 w : World} {bt ba : Nat} {tx : List Txt} {fl : List Bool} (h : RsP n W0 w bt ba tx fl) (hne : bt ≠ ba) (k : Nat) (T : Txt) : RsP n W0 ((w.setCell ⟨ba, k, none⟩ (.bool true)).setCell ⟨bt, k, none⟩ (.string (strT T))) bt ba (tx.set k T) (fl.set k true) := by
  have hf := h.fl_len
  have ht := h.tx_len
  refine ⟨?_, ?_⟩
  · have h1 : OwnStr (w.setCell ⟨ba, k, none⟩ (.bool true)) W0.heap.size (.slice (some ⟨bt, 0, none⟩) n n) tx := own_set h.t (fun e => hne (by injection e))
    have h2 := own_str_put (k := k) T h1 ht.symm
    exact h2
  · have h1 := h.f
    rw [← hf] at h1 ⊢
    exact own_set (OwnT.put (k := k) true h1) (fun e => hne (by injection e with e; exact e.symm))
theorem RsP.flag1 {n : Nat} {W0 w : World} {bt ba : Nat} {tx : List Txt} {fl : List Bool} (h : RsP n W0 w bt ba tx fl) (hne : bt ≠ ba) (k : Nat) : RsP n W0 (w.setCell ⟨ba, k, none⟩ (.bool true)) bt ba tx (fl.set k true) := by
  have hf := h.fl_len
  refine ⟨own_set h.t (fun e => hne (by injection e)), ?_⟩
  have h1 := h.f
  rw [← hf] at h1 ⊢
  exact OwnT.put (k := k) true h1
theorem made_strs (w : World) (N : Nat) (hN : N ≤ 100000) : OwnStr (w.alloc (.cells (madeCells #[.string ⟨#[]⟩] N) 9)) w.heap.size (.slice (some ⟨w.heap.size, 0, none⟩) N N) (List.replicate N []) := by
  unfold OwnStr
  have e : (madeCells #[.string ⟨#[]⟩] N).toList = strCells (List.replicate N []) := by
    rw [toList_madeCells_one]
    unfold strCells
    simp [strT]
  have := World.ownsRow_lit w (e := 9) (size := 1) (madeCells #[.string ⟨#[]⟩] N) N (Nat.le_refl _) (by unfold maxLen; omega) (by simp [madeCells])
  rw [e] at this
  rw [List.length_replicate]
  exact this
/-- two rows laid -/
theorem RsP.made {n : Nat} {W0 w X1 X2 : World} (hb : Below W0.heap.size W0 w) (hn : n ≤ 1000) (h1 : w.alloc (.cells (madeCells #[.string ⟨#[]⟩] n) 9) = X1) (h2 : X1.alloc (.cells (madeCells #[.bool false] n) 4) = X2) : RsP n W0 X2 w.heap.size X1.heap.size (List.replicate n []) (List.replicate n false) ∧ Below w.heap.size w X1 ∧ Below X1.heap.size X1 X2 ∧ X1.heap.size = w.heap.size + 1 := by
  have o1 := made_strs w n (by omega)
  have b1 := al' w (.cells (madeCells #[.string ⟨#[]⟩] n) 9)
  rw [h1] at o1 b1
  have o2 := made_bools X1 n (by omega)
  have b2 := al' X1 (.cells (madeCells #[.bool false] n) 4)
  rw [h2] at o2 b2
  have hs : X1.heap.size = w.heap.size + 1 := by rw [← h1]; simp
  have := hb.size
  exact ⟨⟨own_base (own_below o1 b2) (by omega), own_base o2 (by omega)⟩, b1, b2, hs⟩

end Go.Proofs.YtjelgphhlcecoaaGreatDoor
