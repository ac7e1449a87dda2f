/- PieceActs, of every text and all acts: whatever is done to a text answers, and leaves, what the document says. -/
import Derived.Test.YtnhabinnmkjnbaaActs2
namespace Go.Proofs.Ytnhabinnmkjnbaa
open Go.ChangeShapes Go.WideShapes Go.ChangeAt Go.RowKit

theorem newRef (w : World) (s : ByteArray) (hs : s.size ≤ 4000) : IsRef (w.alloc (.cells #[.slice none 0 0, .string s, .slice none 0 0] 32)) w.heap.size (footR w.heap.size (.slice none 0 0) (.slice none 0 0)) ⟨[], s, []⟩ :=
  ⟨_, _, ⟨heap_alloc_new w _, .inl ⟨rfl, rfl⟩, .inl ⟨rfl, rfl⟩, fun k e => (by cases e), fun k e => (by cases e), fun k e => (by cases e)⟩, fun k => Iff.rfl, hs, Nat.zero_le _, fun b hb => absurd hb List.not_mem_nil, fun b hb => absurd hb List.not_mem_nil⟩

set_option maxRecDepth 100000 in
set_option maxHeartbeats 4000000 in
theorem actsWalk (s : ByteArray) (acts : List Act) (ao : Option Addr) (cap : Nat) (w : World) (hs : s.size ≤ 9223372036854775807) (hl : acts.length ≤ 9223372036854775807) (hA : ActsAt w ao acts) (hai : ∀ x ∈ acts, x.e.a ≤ 9223372036854775807) :
    Calls Try.prog 3 #[.string s, .slice ao acts.length cap] w fun e w' => e = .returned (.bool true) ∧ Below w.heap.size w w' := by
  have GW : Hid (∀ u, Calls Try.prog 8 #[] u fun e w' => e = .returned (.bool true) ∧ Below u.heap.size u w') := wakesT
  have HL := fun (u : World) (hu : ActsAt u ao acts) => longActs s acts ao cap u hs hl hu
  have HA := hid hA
  have HAI := hid hai
  cases hlb : longA s.size acts with
  | true =>
    rw [hlb] at HL
    have GL := hid HL
    clear HL hlb hA hai
    go_enter Try.func3, Try.ntmps3
    go_wp2_with (first
      | (go_at_call 8; refine (GW.out _).mono ?_; rintro e w1 ⟨rfl, hb1⟩)
      | (go_at_call 9; refine (GL.out _ (HA.out.keep hb1)).mono ?_; rintro e w2 ⟨rfl, hw2⟩; subst w2))
    go_ret
    exact ⟨rfl, hb1⟩
  | false =>
    rw [hlb] at HL
    have GL := hid HL
    obtain ⟨l1, l2, l3⟩ := longA_false hlb
    have GN : Hid (∀ u, Calls Try.prog 10 #[.string s] u fun e w' => ∃ tb F, e = .returned (.tuple #[.pointer (some ⟨tb, 0, none⟩), .int .i64 0]) ∧ IsText w' tb F ⟨[], s, []⟩ ∧ (∀ k, F k → u.heap.size ≤ k) ∧ Below u.heap.size u w') := fun u => newT s u (by omega)
    have L3 := hid l3
    clear HL hlb hA l3 hai
    go_enter Try.func3, Try.ntmps3
    go_wp2_with (first
      | (go_at_call 8; refine (GW.out _).mono ?_; rintro e w1 ⟨rfl, hb1⟩)
      | (go_at_call 9; refine (GL.out _ (HA.out.keep hb1)).mono ?_; rintro e w2 ⟨rfl, hw2⟩; subst w2)
      | (go_at_call 10; refine (GN.out _).mono ?_; rintro e w3 ⟨tb, F0, rfl, ht0, hF00, hb3⟩))
    have BW : Below w.heap.size w w3 := bl_step hb1 hb3
    have zb := hb1.size
    have zc := hb3.size
    have B4 : Below w3.heap.size w3 (w3.alloc (.cells #[.slice none 0 0, .string s, .slice none 0 0] 32)) := (Below.refl _ _).alloc (Nat.le_refl _) _
    have N0 := hid (newRef w3 s l1)
    have T0 := hid (ht0.low B4)
    have D0 : Hid (∀ k, F0 k → ¬ footR w3.heap.size (.slice none 0 0) (.slice none 0 0) k) := fun k hk hg => by
      have := ht0.lt hk
      rcases hg with rfl | e | e
      · exact Nat.lt_irrefl _ this
      · cases e
      · cases e
    have F0' : Hid (∀ k, F0 k → w.heap.size ≤ k) := fun k hk => Nat.le_trans zb (hF00 k hk)
    have G0' : Hid (∀ k, footR w3.heap.size (.slice none 0 0) (.slice none 0 0) k → w.heap.size ≤ k) := fun k hg => by
      rcases hg with rfl | e | e
      · omega
      · cases e
      · cases e
    have BX := bl_step BW B4
    clear ht0 hF00 hb1 hb3
    go_loopw [29] (fun i wr => ∃ (k : Nat) (F G : Nat → Prop) (T : St), i = .int .i64 k ∧ k ≤ acts.length ∧ IsText wr tb F T ∧ IsRef wr w3.heap.size G T ∧ (∀ j, F j → ¬ G j) ∧ (∀ j, F j → w.heap.size ≤ j) ∧ (∀ j, G j → w.heap.size ≤ j) ∧ Below w.heap.size w wr) (fun i _ => acts.length - (intOf i).toNat)
    case atStart => exact ⟨0, F0, _, _, rfl, Nat.zero_le _, T0.out, N0.out, D0.out, F0'.out, G0'.out, BX⟩
    case round =>
      obtain ⟨k, F, G, T, rfl, hk, hT, hR, hd, hF, hG, hbl⟩ := hrel
      clear T0 N0 D0 F0' G0' BX B4
      by_cases hlt : k < acts.length
      · have hkz : (k : Int) < (acts.length : Int) := by omega
        have hk0 : (0 : Int) ≤ (k : Int) := by omega
        obtain ⟨b, off, rfl, hbw, hAc⟩ := HA.out (fun e => by rw [e] at hlt; exact Nat.not_lt_zero _ hlt)
        have hx5 := L3.out acts[k] (List.getElem_mem hlt)
        have hxa := HAI.out acts[k] (List.getElem_mem hlt)
        obtain ⟨g0, g1, g2, g3⟩ := (hAc.keepB hbl hbw) k hlt
        clear hAc
        generalize acts[k] = x at hx5 hxa g0 g1 g2 g3
        have wb : Below wr.heap.size wr (wr.alloc (.cells #[.int .i64 x.k, .int .i64 x.e.a, .int .i64 x.e.n, .string x.e.t] 36)) := (Below.refl _ _).alloc (Nat.le_refl _) _
        have HD := doC x (hT.low wb) (hR.low wb) hd hx5 hxa
        rw [decide_eq_true rfl] at HD
        have GD := hid HD
        obtain ⟨T2, hT2⟩ : ∃ T2, (actS x T).2 = T2 := ⟨_, rfl⟩
        rw [hT2] at GD
        clear hT2
        obtain ⟨bs, now, fw⟩ := T2
        have hsz := hbl.size
        have HF := hid hF
        have HG := hid hG
        have HBL := hid hbl
        have HR := hid hR
        have HT := hid hT
        clear HD hT hR hd hF hG hbl
        have q0 := four (heap_alloc_new wr (.cells #[.int .i64 x.k, .int .i64 x.e.a, .int .i64 x.e.n, .string x.e.t] 36))
        obtain ⟨q0, q1, q2, q3⟩ := q0
        go_wp2_with (first
          | (go_at_call 11; refine GD.out.mono ?_; rintro e w5 ⟨rfl, F5, G5, hP⟩; obtain ⟨t5, r5, d5, f5, g5, k5⟩ := hP)
          | (go_at_call 12; refine (stepsT t5).mono ?_; rintro e w6 ⟨rfl, hw6⟩; subst w6)
          | fail)
        have R5 := hid r5
        have T5 := hid t5.drew.drew
        have hxG : G5 w3.heap.size := by obtain ⟨bv, av, _, hG5, _⟩ := r5; exact (hG5 _).2 (.inl rfl)
        have hFx : ¬ F5 w3.heap.size := fun h => d5 _ h hxG
        obtain ⟨ba, bc, aa, ac, X5⟩ : ∃ ba bc aa ac, w5.heap[w3.heap.size]? = some (.cells #[.slice ba bs.length bc, .string now, .slice aa fw.length ac] 32 (0, 0)) := by
          obtain ⟨bv, av, hr, _⟩ := r5
          obtain ⟨ba, bc, e1⟩ := hr.before.form
          obtain ⟨aa, ac, e2⟩ := hr.after.form
          rw [List.length_reverse] at e1 e2
          have := hr.head
          rw [e1, e2] at this
          exact ⟨ba, bc, aa, ac, this⟩
        have X5' : Hid (w5.drew.drew.heap[w3.heap.size]? = some (.cells #[.slice ba bs.length bc, .string now, .slice aa fw.length ac] 32 (0, 0))) := X5
        obtain ⟨x0, x1, x2, _, _, _⟩ := three X5
        have D5 := hid d5
        have FF := hid f5
        have GG := hid g5
        have KK := hid k5
        clear r5 t5 d5 f5 g5 k5 X5 q0 q1 q2 q3 g0 g1 g2 g3
        go_region_held3 (fun w' => w'.cell? ⟨w3.heap.size, 0, none⟩ = some (.slice ba bs.length bc) ∧ w'.cell? ⟨w3.heap.size, 1, none⟩ = some (.string now) ∧ w'.cell? ⟨w3.heap.size, 2, none⟩ = some (.slice aa fw.length ac)) (go_keep) ((first
          | (go_at_call 13; refine (stringT T5.out).mono ?_; rintro e w7 ⟨rfl, F7, t7, m7⟩; have b7 := m7.oldB X5'.out hFx; obtain ⟨y0, y1, y2, _, _, _⟩ := three b7)
          | (go_at_call 14; refine (lenT t7).mono ?_; rintro e w8 ⟨rfl, hw8⟩; subst w8)))
        have zk : w.heap.size ≤ w5.heap.size := Nat.le_trans (by simp; omega) KK.out.size
        have f5' : ∀ j, F5 j → w.heap.size ≤ j := fun j hj => (FF.out j hj).elim (HF.out j) (fun h => Nat.le_trans (by simp; omega) h)
        have g5' : ∀ j, G5 j → w.heap.size ≤ j := fun j hj => (GG.out j hj).elim (HG.out j) (fun h => Nat.le_trans (by simp; omega) h)
        have B5 : Below w.heap.size w w5 := (HBL.out.alloc hsz _).trans (KK.out.below (fun j hj => hj.elim (HF.out j) (HG.out j)) (by simp; omega))
        have R7 := hid (R5.out.drew.drew.keep m7.1 (fun j hg hf => D5.out j hf hg))
        have D7 : Hid (∀ j, F7 j → ¬ G5 j) := fun j hf hg => (m7.2 j hf).elim (fun h => D5.out j h hg) (fun h => absurd (R5.out.lt hg) (Nat.not_lt.2 h))
        have F7' := hid (m7.ge (B := w.heap.size) f5' zk)
        have B7 := hid ((B5.drew.drew).trans (m7.below (B := w.heap.size) f5' zk))
        have G7' := hid g5'
        have T7 := hid t7
        clear t7 b7 y0 y1 y2 f5' g5' B5
        go_wp2
        go_roundw
        case rel => exact ⟨k + 1, F7, G5, ⟨bs, now, fw⟩, by go_num, by omega, T7.out, R7.out, D7.out, F7'.out, G7'.out, B7.out⟩
        case measure => simp [intOf]; omega
      · obtain rfl : k = acts.length := by omega
        clear hT hR
        go_wp2
        go_ret
        exact ⟨rfl, hbl⟩

set_option maxRecDepth 100000 in
theorem pieceActs_lifted (os : Os) (started : os.Started) (H : Type) (enc : TypeId × Value → H) :
    ReturnsInHanded {} Try.checked os 3 .any (Rows.pieceActsSpec.pre6 enc Try.prog Try.f3 Rows.pieceActsRow.domain false) (Rows.pieceActsSpec.post enc Try.prog Try.f3 false true false false) := by
  refine returnsInHanded_of_change (C := Try.checked) Try.own started (by kernel_rfl) Try.func3
    (ChangeSpec.witness6 (enc := enc) (C := Try.checked) false ⟨#[], #[.string .empty, .slice none 0 0], []⟩ 8 (by kernel_rfl) (by kernel_rfl) (by kernel_rfl) (by kernel_rfl)) ?_
  intro W base args ds gs before hval0 hW hcnd _
  have hval : ∀ (j : Nat) t v, Try.f3.params[j]? = some t → args[j]? = some v → Value.okWide Try.prog W .any base t v := hval0
  have hW' := hW
  obtain ⟨p, q, hA0, hV, rfl, hfz, hnd⟩ := hW
  have hA : DataW.TrodAll enc Try.prog W 0 (fun _ => true) true Try.f3.params.toList args.toList ds p := hA0
  rw [Try.params3] at hA hval
  obtain ⟨s, acts, ao, cap, d0, d1, rfl, rfl, hs, hl, hAc, hai⟩ := open_sacts hval hA
  obtain ⟨rfl, rfl⟩ := trodVars_none hV
  clear hA0 hval0
  refine (actsWalk s acts ao cap W hs hl hAc hai).mono fun e W' ⟨he, hb⟩ => ?_
  subst he
  exact ⟨_, rfl, law_post (by kernel_rfl) rfl (by kernel_rfl) rfl hW' hb⟩

theorem pieceActs_holds : Rows.PieceActsSaid :=
  OpenClaim.holds_of_wide 3 Try.f3 rfl rfl rfl rfl rfl rfl rfl ⟨rfl, rfl, rfl, rfl, rfl⟩ rfl rfl rfl rfl rfl (by kernel_rfl) Try.func3 (by kernel_rfl)
    (of_decide_eq_true (by kernel_rfl)) (by unfold Func.isWrapper; first | (rw [if_pos (by decide +kernel)]; kernel_rfl) | (rw [if_neg (by decide +kernel)]; exact ⟨rfl, rfl⟩))
    (fun os started H enc _ => pieceActs_lifted os started H enc)

end Go.Proofs.Ytnhabinnmkjnbaa
