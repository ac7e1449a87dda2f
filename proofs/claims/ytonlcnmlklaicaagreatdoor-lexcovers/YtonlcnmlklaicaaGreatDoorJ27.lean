/- Texts of states: (dfa.places).state, by, accept. (dfa.places).by, accept. (dfa.places).accept; moved. The contract of math/bits.TrailingZeros64, where its table lies as it was laid. -/
import Derived.Test.YtonlcnmlklaicaaGreatDoorJ26
import Derived.Test.YtonlcnmlklaicaaGreatDoorJ20
import Derived.Test.YtonlcnmlklaicaaGreatDoorJ2
import Derived.Lib.UnsafeStr
import Derived.Laws.BytesArg
import Derived.Lib.IndexLaws
namespace Go.Proofs.YtonlcnmlklaicaaGreatDoor
open Go.RowKit

set_option maxRecDepth 20000 in
theorem Tryz.info5 : (Tryz.prog.info? 5).map (fun i => (i.zero, i.size, i.bytes)) = some (some (.int .u8 0), 1, 1) := by kernel_rfl
abbrev OwnB (w : World) (B : Nat) (v : Value) (l : Txt) : Prop := w.ownsRow B 5 1 v l.length (Lib.byteCells l)
theorem OwnB.put {w : World} {B g c n k : Nat} {l : Txt} (x : UInt8) (h : OwnB w B (.slice (some ⟨g, 0, none⟩) n c) l) (hn : n = l.length) : OwnB (w.setCell ⟨g, k, none⟩ (.int .u8 (x.toNat : Int))) B (.slice (some ⟨g, 0, none⟩) n c) (l.set k x) := by
  subst hn
  have h1 := (h.stored k (.int .u8 (x.toNat : Int))).1
  unfold OwnB
  rw [List.length_set, Lib.byteCells, List.map_set]
  exact h1
theorem OwnB.at {w : World} {B g c n : Nat} {l : Txt} (h : OwnB w B (.slice (some ⟨g, 0, none⟩) n c) l) {j : Nat} (hj : j < l.length) : w.cell? ⟨g, j, none⟩ = some (.int .u8 ((l[j]).toNat : Int)) := by
  have := h.cells rfl j (.int .u8 ((l[j]).toNat : Int)) (by simp [Lib.byteCells, hj])
  rw [Go.WideShapes.add_plain, Nat.zero_add] at this
  exact this
theorem OwnB.free {w : World} {B g c n : Nat} {l : Txt} (h : OwnB w B (.slice (some ⟨g, 0, none⟩) n c) l) (hn : n = l.length) (o : Nat) : w.frozen? ⟨g, o, none⟩ = false := by
  subst hn
  exact h.frozenAt o

set_option maxRecDepth 20000 in
theorem convB {B : Nat} {w : World} {v : Value} (l : Txt) (h : OwnB w B v l) : (convert 93 9 v).run Tryz.prog w = .ok (.string (strT l)) w := by
  rcases Joins.ownsRow_forms h with ⟨rfl, h0⟩ | ⟨g, cap, rfl⟩
  · have : l = [] := List.eq_nil_of_length_eq_zero h0
    subst this
    exact run_convert_bytes_nil (P := Tryz.prog) w 93 5 Tryz.underlying93 Tryz.underlying5 0 0 9 Tryz.underlying9
  · refine run_convert_bytes_back w 93 9 5 _ cap l Tryz.underlying93 Tryz.underlying5 Tryz.underlying9 ?_
    intro j hj
    exact h.cells rfl j _ (by simp [Lib.byteCells, hj])
theorem markT_nil (n : Nat) : markT n [] = List.replicate n 0 := by
  apply List.ext_getElem (by simp [markT])
  intro i h1 h2
  simp [markT]
theorem markT_put {n i : Nat} (l : List Int) : (markT n l).set i 1 = markT n (l ++ [(i : Int)]) := by
  apply List.ext_getElem (by simp [markT])
  intro j h1 h2
  rw [List.getElem_set]
  simp only [markT, List.getElem_map, List.getElem_range]
  by_cases e : i = j
  · subst e; simp
  · rw [if_neg e]
    have : ¬ (j : Int) = (i : Int) := by omega
    simp [this]
theorem madeB (w : World) (N : Nat) (hN : N ≤ 100000) : OwnB (w.alloc (.cells (madeCells #[.int .u8 0] N) 5)) w.heap.size (.slice (some ⟨w.heap.size, 0, none⟩) N N) (markT N []) := by
  unfold OwnB
  rw [markT_nil]
  have e : (madeCells #[.int .u8 0] N).toList = Lib.byteCells (List.replicate N 0) := by
    rw [toList_madeCells_one]
    simp [Lib.byteCells]
  have := World.ownsRow_lit w (e := 5) (size := 1) (madeCells #[.int .u8 0] N) N (Nat.le_refl _) (by unfold maxLen; omega) (by simp [madeCells])
  rw [e] at this
  rw [List.length_replicate]
  exact this
set_option maxRecDepth 20000 in
set_option maxHeartbeats 2000000 in
theorem stateC (e : Int) (sa : Option Addr) (N sc : Nat) (bv fv lv : Value) (l : List Int) (w : World) (hN : N ≤ 2000) (hl : l.length ≤ 1000000) (hin : ∀ x ∈ l, 0 ≤ x ∧ x < (N : Int)) (hA : Nums w lv l) :
    Calls Tryz.prog 28 #[.agg #[.int .i64 e, .slice sa N sc, bv, fv], lv] w fun r w' => r = .returned (.string (strT (markT N l))) ∧ Below w.heap.size w w' := by
  have hmk := run_make_row' (P := Tryz.prog) 93 5 (.int .u8 0) 1 Tryz.underlying93 Tryz.info5 rfl .i64 .i64 N (by omega) (by omega)
  obtain ⟨W0, hW0⟩ : ∃ W0, W0 = w.alloc (.cells #[.int .i64 e, .slice sa N sc, bv, fv] 70) := ⟨_, rfl⟩
  have hb0 : Below w.heap.size w W0 := by rw [hW0]; exact al' w _
  have hs0 : W0.heap.size = w.heap.size + 1 := by rw [hW0]; simp
  have hO0 := hid (madeB W0 N (by omega))
  have hb1 := hid (bl_step hb0 (al' W0 (.cells (madeCells #[.int .u8 0] N) 5)))
  obtain ⟨aa, ca, rfl, _, _, hA⟩ := hA
  have hA' := hid hA
  have hin' := hid hin
  rw [hs0] at hO0
  rw [hW0] at hO0 hb1
  clear hA hin hb0 hs0 hW0
  go_enter Tryz.func28, Tryz.ntmps28
  go_wp2
  clear hmk
  go_loopw [14] (fun i wr => ∃ k : Nat, k ≤ l.length ∧ i = .int .i64 k ∧ Hid (OwnB wr (w.heap.size + 1) (.slice (some ⟨w.heap.size + 1, 0, none⟩) N N) (markT N (l.take k))) ∧ Below w.heap.size w wr) (fun i _ => l.length - (intOf i).toNat)
  case atStart => exact ⟨0, Nat.zero_le _, rfl, hO0, hb1.out⟩
  case round =>
    obtain ⟨k, hk, rfl, hO, hbl⟩ := hrel
    by_cases hlt : k < l.length
    · have hltz : (k : Int) < (l.length : Int) := by omega
      obtain ⟨b1, o1, rfl, hb1, hc1⟩ := hA'.out k hlt
      have hd1 := (hbl.cell hb1).trans hc1
      have hx := hin'.out l[k] (List.getElem_mem hlt)
      have hstep : Hid (∀ x : Nat, l[k] = (x : Int) → markT N (l.take (k + 1)) = (markT N (l.take k)).set x 1) := hid (fun x hx => by rw [markT_put, List.take_succ_eq_append_getElem hlt, hx])
      clear hc1
      generalize l[k] = y at hd1 hx hstep
      obtain ⟨x, rfl⟩ : ∃ x : Nat, y = (x : Int) := ⟨y.toNat, by omega⟩
      have hst := hid (hstep.out x rfl)
      have hxn : x < N := by omega
      have hxz : (x : Int) < (N : Int) := by omega
      have hxl : x < (markT N (l.take k)).length := by rw [markT_len]; exact hxn
      have o0 := hO.out.at hxl
      have o1' := hO.out.free (markT_len _ _).symm x
      have hput := hid (hO.out.put (k := x) 1 (markT_len _ _).symm)
      generalize (markT N (l.take k))[x] = oc at o0
      clear hstep hx
      go_wp2
      go_roundw
      case rel => exact ⟨k + 1, by omega, by go_num, hid (by rw [hst.out]; exact hput.out), bl_set hbl _ _ _ (by omega)⟩
      case measure => simp [intOf]; omega
    · have hltz : ¬ (k : Int) < (l.length : Int) := by omega
      have hO1 : OwnB wr (w.heap.size + 1) (.slice (some ⟨w.heap.size + 1, 0, none⟩) N N) (markT N l) := by
        have := hO.out
        rwa [List.take_of_length_le (by omega)] at this
      have hcv := convB _ hO1
      go_wp2
      go_ret
      exact ⟨rfl, hbl⟩

end Go.Proofs.YtonlcnmlklaicaaGreatDoor
namespace Go.Proofs.YtonlcnmlklaicaaGreatDoor
open Go.RowKit

theorem numss_at {w : World} {v : Value} {l : List (List Int)} (h : Numss w v l) : ∃ a c, v = .slice a l.length c ∧ ∀ j (_ : j < l.length), ∃ b o x, a = some ⟨b, o, none⟩ ∧ b < w.heap.size ∧ w.cell? ⟨b, o + j, none⟩ = some x ∧ Nums w x (l.getD j []) := by
  obtain ⟨a, c, rfl, _, _, hat⟩ := h
  refine ⟨a, c, rfl, fun j hj => ?_⟩
  obtain ⟨b, o, x, h1, h2, h3, h4⟩ := hat j hj
  refine ⟨b, o, x, h1, h2, h3, ?_⟩
  rw [List.getD_eq_getElem?_getD, List.getElem?_eq_getElem hj]
  exact h4
theorem sets_at {w : World} {v : Value} {l : List W4} (h : Sets w v l) : ∃ a c, v = .slice a l.length c ∧ ∀ j (_ : j < l.length), ∃ b o, a = some ⟨b, o, none⟩ ∧ b < w.heap.size ∧ Fit4 (l.getD j noneB) ∧ At4 w b (o + j * 4) (l.getD j noneB) := by
  obtain ⟨a, c, rfl, _, _, hf, hat⟩ := h
  refine ⟨a, c, rfl, fun j hj => ?_⟩
  obtain ⟨b, o, h1, h2, h3⟩ := hat j hj
  have e : l.getD j noneB = l[j] := by
    rw [List.getD_eq_getElem?_getD, List.getElem?_eq_getElem hj]
    rfl
  rw [e]
  exact ⟨b, o, h1, h2, hf _ (List.getElem_mem hj), h3⟩
theorem strT_getD (T : Txt) (k : Nat) (h : k < (strT T).size) (h' : k < T.length) : (strT T)[k] = T.getD k 0 := by
  rw [strT_at T k h h', List.getD_eq_getElem?_getD, List.getElem?_eq_getElem h']
  rfl
set_option maxRecDepth 20000 in
set_option maxHeartbeats 8000000 in
theorem byTC (e : Int) (sv bv fv : Value) (S : List W4) (G : List (List Int)) (T : Txt) (b : Nat) (w : World) (hS : S.length ≤ 2000) (hG : G.length = S.length) (hT : T.length = S.length) (hb : b < 256) (hin : ∀ l ∈ G, l.length ≤ 4000 ∧ ∀ x ∈ l, 0 ≤ x ∧ x < (S.length : Int)) (hA : Sets w sv S) (hB : Numss w bv G) :
    Calls Tryz.prog 42 #[.agg #[.int .i64 e, sv, bv, fv], .string (strT T), .int .u8 (b : Int)] w fun r w' => r = .returned (.tuple #[.string (strT (markT S.length (byN S G T b S.length))), .bool (leN S T b S.length)]) ∧ Below w.heap.size w w' := by
  obtain ⟨sa, sc, rfl, hA2⟩ := sets_at hA
  obtain ⟨ba, bc, rfl, hB2⟩ := numss_at hB
  rw [hG] at hB2 ⊢
  have hin' : Hid (∀ k, k < S.length → (G.getD k []).length ≤ 4000 ∧ ∀ x ∈ G.getD k [], 0 ≤ x ∧ x < (S.length : Int)) := hid (fun k hk => by
    rw [List.getD_eq_getElem?_getD, List.getElem?_eq_getElem (show k < G.length by omega)]
    exact hin _ (List.getElem_mem _))
  have hTs := strT_size T
  rw [hT] at hTs
  have hgT : Hid (∀ k (h : k < (strT T).size), k < S.length → (strT T)[k] = T.getD k 0) := hid (fun k h h' => strT_getD T k h (by omega))
  obtain ⟨RR, hRR⟩ : ∃ RR : List Int, Hid (byN S G T b S.length = RR) := ⟨_, hid rfl⟩
  obtain ⟨LL, hLL⟩ : ∃ LL : Bool, Hid (leN S T b S.length = LL) := ⟨_, hid rfl⟩
  rw [hRR.out, hLL.out]
  have hbs : Hid (∀ k, byN S G T b (k + 1) = byN S G T b k ++ (if T.getD k 0 = 1 ∧ hasB (S.getD k noneB) b = true then G.getD k [] else [])) := hid (fun k => rfl)
  have hls : Hid (∀ k, leN S T b (k + 1) = (leN S T b k || (decide (T.getD k 0 = 1) && hasB (S.getD k noneB) b))) := hid (fun k => rfl)
  have GH := hid (fun a0 a1 a2 a3 u (h : Fit4 ⟨a0, a1, a2, a3⟩) => hasC' a0 a1 a2 a3 b u h hb)
  have hA' := hid hA2
  have hB' := hid hB2
  clear hA hB hA2 hB2 hin hG hT
  generalize hN : S.length = N at *
  have hmk := run_make_row' (P := Tryz.prog) 93 5 (.int .u8 0) 1 Tryz.underlying93 Tryz.info5 rfl .i64 .i64 N (by omega) (by omega)
  obtain ⟨W0, hW0⟩ : ∃ W0, W0 = w.alloc (.cells #[.int .i64 e, .slice sa N sc, .slice ba N bc, fv] 70) := ⟨_, rfl⟩
  have hb0 : Hid (Below w.heap.size w W0) := by rw [hW0]; exact hid (al' w _)
  have hs0 : Hid (W0.heap.size = w.heap.size + 1) := by rw [hW0]; exact hid (by simp)
  have hq : W0.heap[w.heap.size]? = some (.cells #[.int .i64 e, .slice sa N sc, .slice ba N bc, fv] 70) := by rw [hW0]; exact heap_new w _
  obtain ⟨q0, q1, q2, q3, -⟩ := cells4p hq
  have hO0 := hid (madeB W0 N (by omega))
  rw [hs0.out] at hO0
  have hb1 := hid (al' W0 (.cells (madeCells #[.int .u8 0] N) 5))
  clear hN hq
  go_enter Tryz.func42, Tryz.ntmps42
  go_wp2
  clear hmk
  rw [← hW0]
  clear hW0
  generalize W0.alloc (.cells (madeCells #[.int .u8 0] N) 5) = W1 at hO0 hb1 ⊢
  go_loopw [9, 21] (fun le i wr => ∃ k : Nat, k ≤ N ∧ i = .int .i64 k ∧ le = .bool (leN S T b k) ∧ Hid (OwnB wr (w.heap.size + 1) (.slice (some ⟨w.heap.size + 1, 0, none⟩) N N) (markT N (byN S G T b k))) ∧ Below W0.heap.size W0 wr) (fun _ i _ => N - (intOf i).toNat)
  case atStart => exact ⟨0, Nat.zero_le _, rfl, rfl, hO0, hb1.out⟩
  case round =>
    obtain ⟨k, hk, rfl, rfl, hO, hbl⟩ := hrel
    have hblw := hid (bl_step hb0.out hbl)
    by_cases hlt : k < N
    · have hltz : (k : Int) < (N : Int) := by omega
      obtain ⟨b1, o1, rfl, hb1, hfit, hat⟩ := hA'.out k hlt
      obtain ⟨z0, z1, z2, z3⟩ := hat.keep hblw.out
      have hbk := hid (hbs.out k)
      have hlk := hid (hls.out k)
      have hltn : k < (strT T).size := by omega
      have hTk := hid (hgT.out k hltn hlt)
      have p2 := keep_cell hbl q2
      clear hat hbs hls
      generalize S.getD k noneB = P at z0 z1 z2 z3 hfit hbk hlk
      obtain ⟨pa, pb, pc, pd⟩ := P
      simp only at z0 z1 z2 z3
      have GK := hid (fun u => GH.out pa pb pc pd u hfit)
      clear hfit GH
      have hal := hid (al' wr (.cells #[.int .u64 (pa : Int), .int .u64 (pb : Int), .int .u64 (pc : Int), .int .u64 (pd : Int)] 65))
      by_cases hc : T.getD k 0 = 1
      · have hcz : (((strT T)[k]'hltn).toNat : Int) = 1 := by rw [hTk.out, hc]; rfl
        generalize hasB ⟨pa, pb, pc, pd⟩ b = hv at GK hbk hlk
        cases hv with
        | false =>
          have hbk' : Hid (byN S G T b (k + 1) = byN S G T b k) := hid (by rw [hbk.out, if_neg (by simp), List.append_nil])
          have hlk' : Hid (leN S T b (k + 1) = leN S T b k) := hid (by rw [hlk.out]; simp)
          generalize leN S T b k = lek at hlk' ⊢
          go_wp2_with (go_at_call 43; refine (GK.out _).mono ?_; rintro e w1 ⟨rfl, hbw⟩)
          go_roundw
          case rel => exact ⟨k + 1, by omega, by go_num, by rw [hlk'.out], hid (by rw [hbk'.out]; exact own_below hO.out (bl_step hal.out hbw)), bl_step hbl (bl_step hal.out hbw)⟩
          case measure => simp [intOf]; omega
        | true =>
          have hbk' : Hid (byN S G T b (k + 1) = byN S G T b k ++ G.getD k []) := hid (by rw [hbk.out, if_pos ⟨hc, rfl⟩])
          have hlk' : Hid (leN S T b (k + 1) = true) := hid (by rw [hlk.out, hc]; simp)
          obtain ⟨b2, o2, x, rfl, hb2, hx, hNx⟩ := hB'.out k hlt
          obtain ⟨xa, xc, hxe, hxN⟩ : ∃ a c, x = .slice a (G.getD k []).length c ∧ ∀ j (h : j < (G.getD k []).length), ∃ b o, a = some ⟨b, o, none⟩ ∧ b < w.heap.size ∧ w.cell? ⟨b, o + j, none⟩ = some (.int .i64 (G.getD k [])[j]) := by
            obtain ⟨a, c, e, _, _, h⟩ := hNx
            exact ⟨a, c, e, h⟩
          subst hxe
          have hxN' := hid hxN
          have hin2 := hid (hin'.out k hlt)
          have hg4 := (hin'.out k hlt).1
          clear hNx hxN hbk hlk
          generalize G.getD k [] = gl at *
          generalize leN S T b k = lek at *
          generalize byN S G T b k = bk at *
          have hkz : (k : Int) < (N : Int) := hltz
          go_wp2_with (go_at_call 43; refine (GK.out _).mono ?_; rintro e w1 ⟨rfl, hbw⟩; have h01 := hid (bl_step hbl (bl_step hal.out hbw)); have p3 := keep_cell (bl_step hal.out hbw) p2; have x2 := keep_cell (bl_step hblw.out (bl_step hal.out hbw)) hx; have hO1 := hid (own_below hO.out (bl_step hal.out hbw)))
          clear GK z0 z1 z2 z3
          obtain ⟨wo, hwo⟩ : ∃ x, x = wr := ⟨_, rfl⟩
          subst hwo
          go_loopw [42] (fun i wr2 => ∃ j : Nat, j ≤ gl.length ∧ i = .int .i64 j ∧ Hid (OwnB wr2 (w.heap.size + 1) (.slice (some ⟨w.heap.size + 1, 0, none⟩) N N) (markT N (bk ++ gl.take j))) ∧ Below W0.heap.size W0 wr2) (fun i _ => gl.length - (intOf i).toNat)
          case atStart => exact ⟨0, Nat.zero_le _, rfl, by rw [List.take_zero, List.append_nil]; exact hO1, h01.out⟩
          case round =>
            obtain ⟨j, hj, rfl, hO2, hbl2⟩ := hrel
            by_cases hjl : j < gl.length
            · have hjz : (j : Int) < (gl.length : Int) := by omega
              obtain ⟨b5, o5, rfl, hb5, hc5⟩ := hxN'.out j hjl
              have hd5 := keep_cell (bl_step hb0.out hbl2) hc5
              have hy := hin2.out.2 gl[j] (List.getElem_mem hjl)
              have hstep : Hid (∀ x : Nat, gl[j] = (x : Int) → markT N (bk ++ gl.take (j + 1)) = (markT N (bk ++ gl.take j)).set x 1) := hid (fun x hx => by rw [markT_put, List.take_succ_eq_append_getElem hjl, hx, List.append_assoc])
              clear hc5
              generalize gl[j] = y at hd5 hy hstep
              obtain ⟨yn, rfl⟩ : ∃ x : Nat, y = (x : Int) := ⟨y.toNat, by omega⟩
              have hst := hid (hstep.out yn rfl)
              have hyn : yn < N := by omega
              have hyz : (yn : Int) < (N : Int) := by omega
              have hyl : yn < (markT N (bk ++ gl.take j)).length := by rw [markT_len]; exact hyn
              have o0 := hO2.out.at hyl
              have o1' := hO2.out.free (markT_len _ _).symm yn
              have hput := hid (hO2.out.put (k := yn) 1 (markT_len _ _).symm)
              generalize (markT N (bk ++ gl.take j))[yn] = oc at o0
              clear hstep hy
              go_wp2
              go_roundw
              case rel => exact ⟨j + 1, by omega, by go_num, hid (by rw [hst.out]; exact hput.out), bl_set hbl2 _ _ _ (by rw [hs0.out]; exact Nat.le_refl _)⟩
              case measure => simp [intOf]; omega
            · have hjz : ¬ (j : Int) < (gl.length : Int) := by omega
              have hO3 : Hid (OwnB wr (w.heap.size + 1) (.slice (some ⟨w.heap.size + 1, 0, none⟩) N N) (markT N (byN S G T b (k + 1)))) := hid (by
                have := hO2.out
                rw [List.take_of_length_le (by omega)] at this
                rw [hbk'.out]
                exact this)
              go_wp2
              go_roundw
              case rel => exact ⟨k + 1, by omega, by go_num, by rw [hlk'.out], hO3, hbl2⟩
              case measure => simp [intOf]; omega
      · have hcz : ((((strT T)[k]'hltn).toNat : Int) == 1) = false := by
          rw [hTk.out, beq_eq_false_iff_ne]
          intro h
          refine hc (UInt8.toNat_inj.1 ?_)
          have : (T.getD k 0).toNat = 1 := by omega
          rw [this]
          rfl
        have hbk' : Hid (byN S G T b (k + 1) = byN S G T b k) := hid (by rw [hbk.out, if_neg (fun h => hc h.1), List.append_nil])
        have hlk' : Hid (leN S T b (k + 1) = leN S T b k) := hid (by rw [hlk.out, decide_eq_false hc]; simp)
        have hcn : ¬ (((strT T)[k]'hltn).toNat : Int) = 1 := by simpa using hcz
        clear hcz
        generalize leN S T b k = lek at hlk' ⊢
        go_wp2
        go_roundw
        case rel => exact ⟨k + 1, by omega, by go_num, by rw [hlk'.out], hid (by rw [hbk'.out]; exact own_below hO.out hal.out), bl_step hbl hal.out⟩
        case measure => simp [intOf]; omega
    · have hltz : ¬ (k : Int) < (N : Int) := by omega
      obtain rfl : k = N := by omega
      have hcv := convB _ hO.out
      rw [hRR.out] at hcv
      rw [hLL.out]
      go_wp2
      go_ret2
      exact ⟨rfl, hblw.out⟩

end Go.Proofs.YtonlcnmlklaicaaGreatDoor
namespace Go.Proofs.YtonlcnmlklaicaaGreatDoor
open Go.RowKit

set_option maxRecDepth 20000 in
set_option maxHeartbeats 1600000 in
theorem acceptP (R : Nat) (sv bv fv : Value) (T : Txt) (w : World) (hR : R ≤ T.length) (_hT : T.length ≤ 2000) :
    Calls Tryz.prog 31 #[.agg #[.int .i64 (R : Int), sv, bv, fv], .string (strT T)] w fun r w' => r = .returned (.int .i64 (Lib.indexByte (T.take R) 1)) ∧ Below w.heap.size w w' := by
  have hTs := strT_size T
  have GI := hid idxC
  have hal := hid (al' w (.cells #[.int .i64 (R : Int), sv, bv, fv] 70))
  have hRz : (R : Int) ≤ (T.length : Int) := by omega
  have hRs : R ≤ (strT T).size := by omega
  go_enter Tryz.func31, Tryz.ntmps31
  go_wp2_with (go_at_call 44; refine (GI.out _ _ _).mono ?_; rintro e w1 ⟨rfl, hw⟩; subst w1)
  go_ret
  refine ⟨?_, hal.out⟩
  simp [strT]

def movL (r : Nat) (l : List Int) : List Int := l.map fun x => (r : Int) + x
theorem movL_take {r k : Nat} {l : List Int} (h : k < l.length) : movL r (l.take (k + 1)) = movL r (l.take k) ++ [(r : Int) + l[k]] := by
  unfold movL
  rw [List.take_succ_eq_append_getElem h, List.map_append]
  rfl
theorem movL_len (r : Nat) (l : List Int) : (movL r l).length = l.length := by simp [movL]
set_option maxRecDepth 20000 in
set_option maxHeartbeats 1000000 in
theorem movedC (r : Nat) (v : Value) (l : List Int) (w : World) (hr : r ≤ 100000) (hl : l.length ≤ 100000) (hp : ∀ x ∈ l, 0 ≤ x ∧ x < 1000000) (hA : Nums w v l) :
    Calls Tryz.prog 55 #[v, .int .i64 (r : Int)] w fun e w' => ∃ v', e = .returned v' ∧ Own w' w.heap.size v' (movL r l) ∧ Below w.heap.size w w' ∧ (l = [] → v' = .slice none 0 0 ∧ w' = w) := by
  obtain ⟨aa, ca, rfl, _, _, hA⟩ := hA
  have hp' := hid hp
  have hA' := hid hA
  have h0 : Hid (∀ k, k ≤ l.length → l = [] → k = 0) := hid (fun k hk e => by subst e; simpa using hk)
  clear hp hA
  go_enter Tryz.func55, Tryz.ntmps55
  go_wp2
  go_loopw [5, 10] (fun v i wr => ∃ k : Nat, k ≤ l.length ∧ i = .int .i64 k ∧ Hid (Own wr w.heap.size v (movL r (l.take k))) ∧ Below w.heap.size w wr ∧ Hid (k = 0 → v = .slice none 0 0 ∧ wr = w)) (fun _ i _ => l.length - (intOf i).toNat)
  case atStart => exact ⟨0, Nat.zero_le _, rfl, hid (World.ownsRow_nil _ _ _ _), Below.refl _ w, hid (fun _ => ⟨rfl, rfl⟩)⟩
  case round =>
    obtain ⟨k, hk, rfl, hO, hbl, hz⟩ := hrel
    by_cases hlt : k < l.length
    · have hltz : (k : Int) < (l.length : Int) := by omega
      obtain ⟨b1, o1, rfl, hb1, hc1⟩ := hA'.out k hlt
      have hd1 := (hbl.cell hb1).trans hc1
      clear hc1
      have hsz := hbl.size
      have hx := hp'.out l[k] (List.getElem_mem hlt)
      have hstep := hid (movL_take (r := r) hlt)
      have hlen : (movL r (l.take k)).length ≤ k := by rw [movL_len, List.length_take]; omega
      have hlen := hid hlen
      generalize l[k] = x at hd1 hx hstep
      have hx0 := hx.1
      have hx1 := hx.2
      clear hx
      have hO2 := hid (World.ownsRow.alloc hO.out (.cells #[.int .i64 ((r : Int) + x)] 3))
      go_wp2_with (first
        | (at_builtin; refine wp_app _ rfl _ _ rfl w.heap.size _ [(r : Int) + x] _ _ rfl rfl hO2.out (Nums.lit1 wr _) (by have := hlen.out; simp only [List.length_singleton]; omega) (by simp; omega) ?_; intro v' w2 hO3 hb2))
      go_wp2
      go_roundw
      case rel => exact ⟨k + 1, by omega, by go_num, by rw [hstep.out]; exact hid hO3, (hbl.alloc hsz _).trans hb2, hid (fun h => absurd h (Nat.succ_ne_zero k))⟩
      case measure => simp [intOf]; omega
    · have hltz : ¬ (k : Int) < (l.length : Int) := by omega
      have hO1 : Hid (Own wr w.heap.size u5 (movL r l)) := by
        have := hO.out
        rw [List.take_of_length_le (by omega)] at this
        exact hid this
      go_wp2
      go_ret
      exact ⟨_, rfl, hO1.out, hbl, fun e => hz.out (h0.out k hk e)⟩

end Go.Proofs.YtonlcnmlklaicaaGreatDoor
namespace Go.Proofs.YtonlcnmlklaicaaGreatDoor
open Go.RowKit

set_option maxRecDepth 20000 in
set_option maxHeartbeats 1000000 in
theorem tz_core (x k idx : Nat) (w : World) (hx0 : ((x : Int) == 0) = false)
    (key : IntKind.u64.wrap (bits BinOp.and IntKind.u64 (x : Int) (IntKind.u64.wrap (-(x : Int))) * 285870213051353865) / 288230376151711744 = (idx : Int))
    (hi : idx < 64) (hk : k < 64) (hcell : w.cell? ⟨0, idx, none⟩ = some (.int .u8 k)) :
    Calls Tryz.prog 60 #[.int .u64 x] w fun e w' => e = .returned (.int .i64 k) ∧ w' = w := by
  go_enter Tryz.func60, Tryz.ntmps60
  go_wp2_with (simp only [key])
  go_ret
  exact ⟨rfl, rfl⟩
set_option maxRecDepth 20000 in
theorem tzC (x : Nat) (w : World) (hx : x < 18446744073709551616) (h0 : x ≠ 0) (hT : Tab w) :
    Calls Tryz.prog 60 #[.int .u64 x] w fun e w' => e = .returned (.int .i64 ((Lib.ctz 64 x : Nat) : Int)) ∧ w' = w := by
  obtain ⟨hlow, hk⟩ := Lib.lowest_bit 64 x h0 hx
  obtain ⟨hi, htab⟩ := Lib.deBruijn64_at _ hk
  have hcell := hT _ hi
  rw [htab] at hcell
  exact tz_core x _ _ w (by simp; omega) (tz64_key x _ hx h0 hlow) hi hk hcell

end Go.Proofs.YtonlcnmlklaicaaGreatDoor
