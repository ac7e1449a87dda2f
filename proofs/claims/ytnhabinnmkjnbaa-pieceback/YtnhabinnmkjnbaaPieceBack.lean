/- PieceBack, of every text and all acts: as many Undos as can be, and as many Redos, leave what there was. -/
import Derived.Test.YtnhabinnmkjnbaaPieceActs
namespace Go.Proofs.Ytnhabinnmkjnbaa
open Go.ChangeShapes Go.WideShapes Go.ChangeAt Go.RowKit

/-- behind so many acts: how many texts there are, and which the oldest is -/
def Bot (s : ByteArray) (k : Nat) (T : St) : Prop := T.bs.length + T.fw.length ≤ k ∧ (k ≤ 32 → (T.now :: T.bs).getLast? = some s)

theorem Bot.undo {s : ByteArray} {k : Nat} {T : St} (h : Bot s k T) : Bot s k T.undo.2 := by
  unfold St.undo
  cases e : T.bs with
  | nil => exact h
  | cons b bs =>
    unfold Bot at *
    rw [e] at h
    refine ⟨by have := h.1; simp only [List.length_cons] at *; omega, fun hk => ?_⟩
    have := h.2 hk
    rwa [List.getLast?_cons_cons] at this
theorem Bot.redo {s : ByteArray} {k : Nat} {T : St} (h : Bot s k T) : Bot s k T.redo.2 := by
  unfold St.redo
  cases e : T.fw with
  | nil => exact h
  | cons b fw =>
    unfold Bot at *
    rw [e] at h
    refine ⟨by have := h.1; simp only [List.length_cons] at *; omega, fun hk => ?_⟩
    have := h.2 hk
    show (b :: T.now :: T.bs).getLast? = some s
    rwa [List.getLast?_cons_cons]
theorem Bot.mono {s : ByteArray} {k : Nat} {T : St} (h : Bot s k T) : Bot s (k + 1) T := ⟨Nat.le_succ_of_le h.1, fun hk => h.2 (by omega)⟩
theorem Bot.act {s : ByteArray} {k : Nat} {T : St} (h : Bot s k T) (x : Act) : Bot s (k + 1) (actS x T).2 := by
  unfold actS
  split
  · unfold St.edit
    split
    · refine ⟨?_, fun hk => ?_⟩
      · have := h.1
        show ((T.now :: T.bs).take 32).length + 0 ≤ k + 1
        rw [List.length_take, List.length_cons]; omega
      · show (_ :: (T.now :: T.bs).take 32).getLast? = some s
        rw [List.take_of_length_le (by have := h.1; simp only [List.length_cons]; omega), List.getLast?_cons_cons]
        exact h.2 (by omega)
    · exact h.mono
  · split
    · exact h.undo.mono
    · split
      · exact h.redo.mono
      · exact h.mono

/-- so many Undos -/
def undoN (T : St) : Nat → St
  | 0 => T
  | j + 1 => (undoN T j).undo.2
theorem undoN_bs (T : St) : ∀ j, j ≤ T.bs.length → (undoN T j).bs.length = T.bs.length - j
  | 0, _ => rfl
  | j + 1, h => by
    have ih := undoN_bs T j (by omega)
    show (undoN T j).undo.2.bs.length = _
    unfold St.undo
    cases e : (undoN T j).bs with
    | nil => rw [e] at ih; simp at ih; omega
    | cons b bs => rw [e] at ih; simp at ih ⊢; omega
theorem undoN_ok (T : St) {j : Nat} (h : j < T.bs.length) : (undoN T j).undo.1 = 0 := by
  have ih := undoN_bs T j (by omega)
  unfold St.undo
  cases e : (undoN T j).bs with
  | nil => rw [e] at ih; simp at ih; omega
  | cons b bs => rfl
theorem undoN_end (T : St) : (undoN T T.bs.length).undo = (4, undoN T T.bs.length) := by
  have ih := undoN_bs T T.bs.length (Nat.le_refl _)
  unfold St.undo
  cases e : (undoN T T.bs.length).bs with
  | nil => rfl
  | cons b bs => rw [e] at ih; simp at ih
theorem undoN_redo (T : St) {j : Nat} (h : j < T.bs.length) : (undoN T (j + 1)).redo = (0, undoN T j) := by
  have ih := undoN_bs T j (by omega)
  show (undoN T j).undo.2.redo = (0, undoN T j)
  generalize undoN T j = V at ih
  obtain ⟨bs', now', fw'⟩ := V
  cases bs' with
  | nil => simp at ih; omega
  | cons b r => rfl
theorem undoN_bot {s : ByteArray} {k : Nat} {T : St} (h : Bot s k T) : ∀ j, Bot s k (undoN T j)
  | 0 => h
  | j + 1 => (undoN_bot h j).undo
theorem undoN_now {s : ByteArray} {k : Nat} {T : St} (h : Bot s k T) (hk : k ≤ 32) : (undoN T T.bs.length).now = s := by
  have hb := (undoN_bot h T.bs.length).2 hk
  have hl := undoN_bs T T.bs.length (Nat.le_refl _)
  cases e : (undoN T T.bs.length).bs with
  | nil => rw [e] at hb; exact Option.some.inj hb
  | cons b bs => rw [e] at hl; simp at hl

set_option maxRecDepth 100000 in
set_option maxHeartbeats 8000000 in
theorem backWalk (s : ByteArray) (acts : List Act) (ao : Option Addr) (cap : Nat) (w : World) (hs : s.size ≤ 9223372036854775807) (hl : acts.length ≤ 9223372036854775807) (hA : ActsAt w ao acts) (hai : ∀ x ∈ acts, x.e.a ≤ 9223372036854775807) :
    Calls Try.prog 5 #[.string s, .slice ao acts.length cap] w fun e w' => e = .returned (.bool true) ∧ Below w.heap.size w w' := by
  have GW : Hid (∀ u, Calls Try.prog 8 #[] u fun e w' => e = .returned (.bool true) ∧ Below u.heap.size u w') := wakesT
  have HL := fun (u : World) (hu : ActsAt u ao acts) => longActs s acts ao cap u hs hl hu
  have HA := hid hA
  have HAI := hid hai
  cases hlb : longA s.size acts with
  | true =>
    rw [hlb] at HL
    have GL := hid HL
    clear HL hlb hA hai
    go_enter Try.func5, Try.ntmps5
    go_wp2_with (first
      | (go_at_call 8; refine (GW.out _).mono ?_; rintro e w1 ⟨rfl, hb1⟩)
      | (go_at_call 9; refine (GL.out _ (HA.out.keep hb1)).mono ?_; rintro e w2 ⟨rfl, hw2⟩; subst w2))
    go_ret
    exact ⟨rfl, hb1⟩
  | false =>
    rw [hlb] at HL
    have GL := hid HL
    obtain ⟨l1, l2, l3⟩ := longA_false hlb
    have GN : Hid (∀ u, Calls Try.prog 10 #[.string s] u fun e w' => ∃ tb F, e = .returned (.tuple #[.pointer (some ⟨tb, 0, none⟩), .int .i64 0]) ∧ IsText w' tb F ⟨[], s, []⟩ ∧ (∀ k, F k → u.heap.size ≤ k) ∧ Below u.heap.size u w') := fun u => newT s u (by omega)
    have L3 := hid l3
    clear HL hlb hA l3 hai
    go_enter Try.func5, Try.ntmps5
    go_wp2_with (first
      | (go_at_call 8; refine (GW.out _).mono ?_; rintro e w1 ⟨rfl, hb1⟩)
      | (go_at_call 9; refine (GL.out _ (HA.out.keep hb1)).mono ?_; rintro e w2 ⟨rfl, hw2⟩; subst w2)
      | (go_at_call 10; refine (GN.out _).mono ?_; rintro e w3 ⟨tb, F0, rfl, ht0, hF00, hb3⟩))
    have BW : Below w.heap.size w w3 := bl_step hb1 hb3
    have zb := hb1.size
    have T0 := hid ht0
    have F0' : Hid (∀ k, F0 k → w.heap.size ≤ k) := fun k hk => Nat.le_trans zb (hF00 k hk)
    have b0 : Hid (Bot s 0 ⟨[], s, []⟩) := ⟨Nat.le_refl _, fun _ => rfl⟩
    clear ht0 hF00 hb1 hb3
    go_loopw [26] (fun i wr => ∃ (k : Nat) (F : Nat → Prop) (T : St), i = .int .i64 k ∧ k ≤ acts.length ∧ IsText wr tb F T ∧ Bot s k T ∧ (∀ j, F j → w.heap.size ≤ j) ∧ Below w.heap.size w wr) (fun i _ => acts.length - (intOf i).toNat)
    case atStart => exact ⟨0, F0, _, rfl, Nat.zero_le _, T0.out, b0.out, F0'.out, BW⟩
    case round =>
      obtain ⟨k, F, T, rfl, hk, hT, hbot, hF, hbl⟩ := hrel
      clear T0 F0' b0 BW
      have hsz := hbl.size
      have HF := hid hF
      have HBL := hid hbl
      have HT := hid hT
      have HBt := hid hbot
      by_cases hlt : k < acts.length
      · have hkz : (k : Int) < (acts.length : Int) := by omega
        have hk0 : (0 : Int) ≤ (k : Int) := by omega
        obtain ⟨b, off, rfl, hbw, hAc⟩ := HA.out (fun e => by rw [e] at hlt; exact Nat.not_lt_zero _ hlt)
        have hx5 := L3.out acts[k] (List.getElem_mem hlt)
        have hxa := HAI.out acts[k] (List.getElem_mem hlt)
        obtain ⟨g0, g1, g2, g3⟩ := (hAc.keepB hbl hbw) k hlt
        clear hAc
        generalize acts[k] = x at hx5 hxa g0 g1 g2 g3
        have wb : Below wr.heap.size wr (wr.alloc (.cells #[.int .i64 x.k, .int .i64 x.e.a, .int .i64 x.e.n, .string x.e.t] 36)) := (Below.refl _ _).alloc (Nat.le_refl _) _
        obtain ⟨W1, hW1⟩ : ∃ W1, W1 = wr.alloc (.cells #[.int .i64 x.k, .int .i64 x.e.a, .int .i64 x.e.n, .string x.e.t] 36) := ⟨_, rfl⟩
        have hz1 : W1.heap.size = wr.heap.size + 1 := by rw [hW1]; simp
        have N1 := newRef W1 ⟨#[]⟩ (Nat.zero_le _)
        have wb2 : Below W1.heap.size W1 (W1.alloc (.cells #[.slice none 0 0, .string ⟨#[]⟩, .slice none 0 0] 32)) := (Below.refl _ _).alloc (Nat.le_refl _) _
        have t1 : IsText W1 tb F T := by rw [hW1]; exact hT.low wb
        have hd : ∀ j, F j → ¬ footR W1.heap.size (.slice none 0 0) (.slice none 0 0) j := fun j hj hg => by
          have := t1.lt hj
          rcases hg with rfl | e | e
          · exact Nat.lt_irrefl _ this
          · cases e
          · cases e
        have GD := hid (doC x (t1.low wb2) N1 hd hx5 hxa)
        generalize decide ((actS x T).1 = (actS x ⟨[], ⟨#[]⟩, []⟩).1) = rb at GD
        generalize (actS x (⟨[], ⟨#[]⟩, []⟩ : St)).2 = U2 at GD
        have hb2 := hid (hbot.act x)
        obtain ⟨T2, hT2⟩ : ∃ T2, (actS x T).2 = T2 := ⟨_, rfl⟩
        rw [hT2] at GD hb2
        rw [hz1, hW1] at GD
        clear hT2 hT hF hbl hbot N1 t1 hd wb2 hz1
        subst hW1
        obtain ⟨q0, q1, q2, q3⟩ := four (heap_alloc_new wr (.cells #[.int .i64 x.k, .int .i64 x.e.a, .int .i64 x.e.n, .string x.e.t] 36))
        have Q0 : ∀ o, ((wr.alloc (.cells #[.int .i64 x.k, .int .i64 x.e.a, .int .i64 x.e.n, .string x.e.t] 36)).alloc o).heap[wr.heap.size]? = some (.cells #[.int .i64 x.k, .int .i64 x.e.a, .int .i64 x.e.n, .string x.e.t] 36) := fun o => blk_alloc (heap_alloc_new wr _) o
        have P0 := fun o => (four (Q0 o)).1
        have P1 := fun o => (four (Q0 o)).2.1
        have P2 := fun o => (four (Q0 o)).2.2.1
        have P3 := fun o => (four (Q0 o)).2.2.2
        clear Q0
        go_wp2_with (first
          | (go_at_call 11; refine GD.out.mono ?_; rintro e w5 ⟨rfl, F5, G5, hP⟩; obtain ⟨t5, _, _, f5, _, k5⟩ := hP; have T5 := (hid t5); have FF := (hid f5); have KK := (hid k5); clear t5 f5 k5)
          | fail)
        have f5' : ∀ j, F5 j → w.heap.size ≤ j := fun j hj => (FF.out j hj).elim (HF.out j) (fun h => Nat.le_trans (by simp; omega) h)
        have B5 : Below w.heap.size w w5 := (((HBL.out.alloc hsz _).alloc (by simp; omega) _)).trans (KK.out.below (fun j hj => hj.elim (HF.out j) (fun h => by
          rcases h with rfl | e | e
          · first | omega | (simp; omega)
          · cases e
          · cases e)) (by simp; omega))
        have F5' := hid f5'
        have B5' := hid B5
        clear f5' B5 g0 g1 g2 g3 q0 q1 q2 q3 P0 P1 P2 P3
        go_roundw
        case rel => exact ⟨k + 1, F5, T2, by go_num, by omega, T5.out, hb2.out, F5'.out, B5'.out⟩
        case measure => simp [intOf]; omega
      · obtain rfl : k = acts.length := by omega
        clear hT hbot hF hbl
        have hfew := HT.out.few
        have GE1 := hid (undoN_end T)
        have GN1 := hid (fun hk => undoN_now HBt.out hk)
        have GU0 := hid (fun (j : Nat) (h : j < T.bs.length) => undoN_ok T h)
        have GR0 := hid (fun (j : Nat) (h : j < T.bs.length) => undoN_redo T h)
        clear HBt
        go_wp2_with (first
          | (go_at_call 13; refine (stringT HT.out).mono ?_; rintro e w4 ⟨rfl, F4, t4, m4⟩)
          | (go_at_call 12; refine (stepsT t4).mono ?_; rintro e w5 ⟨rfl, hw5⟩; subst w5)
          | fail)
        have T4 := hid t4.drew
        have F4' := hid (m4.ge HF.out hsz)
        have B4 := hid (HBL.out.trans (m4.below HF.out hsz)).drew
        clear t4 m4
        go_loopw [48] (fun i wr => ∃ (j : Nat) (F : Nat → Prop), i = .int .i64 j ∧ j ≤ T.bs.length ∧ IsText wr tb F (undoN T j) ∧ (∀ k, F k → w.heap.size ≤ k) ∧ Below w.heap.size w wr) (fun i _ => T.bs.length - (intOf i).toNat)
        case atStart => exact ⟨0, F4, rfl, Nat.zero_le _, T4.out, F4'.out, B4.out⟩
        case round =>
          obtain ⟨j, Fj, rfl, hj, hTj, hFj, hbj⟩ := hrel
          clear T4 F4' B4
          have zj := hbj.size
          have HTj := hid hTj
          have HFj := hid hFj
          have HBj := hid hbj
          clear hTj hFj hbj
          by_cases hjn : j < T.bs.length
          · have hjz : (j : Int) < (T.bs.length : Int) := by omega
            have GU : Hid (∀ (u : World) (F : Nat → Prop), IsText u tb F (undoN T j) → Calls Try.prog 18 #[.pointer (some ⟨tb, 0, none⟩)] u fun e w' => e = .returned (.int .i64 0) ∧ ∃ F', IsText w' tb F' (undoN T (j + 1)) ∧ Moved F F' u w') := fun u F h => by
              have k := undoT h
              rw [GU0.out j hjn] at k
              exact k
            go_wp2_with (go_at_call 18; refine (GU.out _ _ HTj.out).mono ?_; rintro e w6 ⟨rfl, F6, t6, m6⟩; have T6 := (hid t6); clear t6)
            have F6' := hid (m6.ge HFj.out zj)
            have B6 := hid (HBj.out.trans (m6.below HFj.out zj))
            go_roundw
            case rel => exact ⟨j + 1, F6, by go_num, by omega, T6.out, F6'.out, B6.out⟩
            case measure => simp [intOf]; omega
          · obtain rfl : j = T.bs.length := by omega
            have GU : Hid (∀ (u : World) (F : Nat → Prop), IsText u tb F (undoN T T.bs.length) → Calls Try.prog 18 #[.pointer (some ⟨tb, 0, none⟩)] u fun e w' => e = .returned (.int .i64 4) ∧ ∃ F', IsText w' tb F' (undoN T T.bs.length) ∧ Moved F F' u w') := fun u F h => by
              have k := undoT h
              rw [GE1.out] at k
              exact k
            by_cases h32 : acts.length ≤ 32
            · have h32' : (acts.length : Int) ≤ 32 := by omega
              have GS : Hid (∀ (u : World) (F : Nat → Prop), IsText u tb F (undoN T T.bs.length) → Calls Try.prog 13 #[.pointer (some ⟨tb, 0, none⟩)] u fun e w' => e = .returned (.string s) ∧ ∃ F', IsText w' tb F' (undoN T T.bs.length) ∧ Moved F F' u w') := fun u F h => by
                have k := stringT h
                rw [GN1.out h32] at k
                exact k
              go_wp2_with (first
                | (go_at_call 13; refine (GS.out _ _ HTj.out).mono ?_; rintro e w6 ⟨rfl, F6, t6, m6⟩)
                | (go_at_call 18; refine (GU.out _ _ t6).mono ?_; rintro e w7 ⟨rfl, F7, t7, m7⟩)
                | fail)
              have z6 := Nat.le_trans zj m6.1.size
              have F6' := m6.ge HFj.out zj
              have T7 := hid t7
              have F7' := hid (m7.ge F6' z6)
              have B7 := hid ((HBj.out.trans (m6.below HFj.out zj)).trans (m7.below F6' z6))
              clear t6 t7 F6'
              have hn0 : undoN T (T.bs.length - 0) = undoN T T.bs.length := rfl
              go_loopw [69] (fun i wr => ∃ (j : Nat) (F : Nat → Prop), i = .int .i64 j ∧ j ≤ T.bs.length ∧ IsText wr tb F (undoN T (T.bs.length - j)) ∧ (∀ k, F k → w.heap.size ≤ k) ∧ Below w.heap.size w wr) (fun i _ => T.bs.length - (intOf i).toNat)
              case atStart => exact ⟨0, _, rfl, Nat.zero_le _, T7.out, F7'.out, B7.out⟩
              case round =>
                obtain ⟨q, Fq, rfl, hq, hTq, hFq, hbq⟩ := hrel
                have zq := hbq.size
                have HTq := hid hTq
                have HFq := hid hFq
                have HBq := hid hbq
                clear hTq hFq hbq
                by_cases hqn : q < T.bs.length
                · have hqz : (q : Int) < (T.bs.length : Int) := by omega
                  obtain ⟨m, hm⟩ : ∃ m, T.bs.length - q = m + 1 := ⟨T.bs.length - q - 1, by omega⟩
                  have hm2 : T.bs.length - (q + 1) = m := by omega
                  have GQ : Hid (∀ (u : World) (F : Nat → Prop), IsText u tb F (undoN T (T.bs.length - q)) → Calls Try.prog 19 #[.pointer (some ⟨tb, 0, none⟩)] u fun e w' => e = .returned (.int .i64 0) ∧ ∃ F', IsText w' tb F' (undoN T (T.bs.length - (q + 1))) ∧ Moved F F' u w') := fun u F h => by
                    rw [hm] at h
                    have k := redoT h
                    rw [GR0.out m (by omega)] at k
                    rw [hm2]
                    exact k
                  clear hm hm2
                  go_wp2_with (go_at_call 19; refine (GQ.out _ _ HTq.out).mono ?_; rintro e w9 ⟨rfl, F9, t9, m9⟩; have T9 := (hid t9); clear t9)
                  have F9' := hid (m9.ge HFq.out zq)
                  have B9 := hid (HBq.out.trans (m9.below HFq.out zq))
                  go_roundw
                  case rel => exact ⟨q + 1, F9, by go_num, by omega, T9.out, F9'.out, B9.out⟩
                  case measure => simp [intOf]; omega
                · obtain rfl : q = T.bs.length := by omega
                  have HTz : Hid (IsText wr tb Fq T) := by have := HTq.out; rw [Nat.sub_self] at this; exact this
                  go_wp2_with (first
                    | (go_at_call 12; refine (stepsT HTz.out).mono ?_; rintro e wa ⟨rfl, hwa⟩; subst wa)
                    | (go_at_call 13; refine (stringT HTz.out.drew).mono ?_; rintro e wb ⟨rfl, Fb, tb', mb⟩))
                  go_ret
                  exact ⟨by first | rfl | simp, HBq.out.drew.trans (mb.below HFq.out zq)⟩
            · have h32' : ¬ (acts.length : Int) ≤ 32 := by omega
              go_wp2_with (first
                | (go_at_call 18; refine (GU.out _ _ HTj.out).mono ?_; rintro e w7 ⟨rfl, F7, t7, m7⟩)
                | fail)
              have T7 := hid t7
              have F7' := hid (m7.ge HFj.out zj)
              have B7 := hid (HBj.out.trans (m7.below HFj.out zj))
              clear t7
              have hn0 : undoN T (T.bs.length - 0) = undoN T T.bs.length := rfl
              go_loopw [69] (fun i wr => ∃ (j : Nat) (F : Nat → Prop), i = .int .i64 j ∧ j ≤ T.bs.length ∧ IsText wr tb F (undoN T (T.bs.length - j)) ∧ (∀ k, F k → w.heap.size ≤ k) ∧ Below w.heap.size w wr) (fun i _ => T.bs.length - (intOf i).toNat)
              case atStart => exact ⟨0, _, rfl, Nat.zero_le _, T7.out, F7'.out, B7.out⟩
              case round =>
                obtain ⟨q, Fq, rfl, hq, hTq, hFq, hbq⟩ := hrel
                have zq := hbq.size
                have HTq := hid hTq
                have HFq := hid hFq
                have HBq := hid hbq
                clear hTq hFq hbq
                by_cases hqn : q < T.bs.length
                · have hqz : (q : Int) < (T.bs.length : Int) := by omega
                  obtain ⟨m, hm⟩ : ∃ m, T.bs.length - q = m + 1 := ⟨T.bs.length - q - 1, by omega⟩
                  have hm2 : T.bs.length - (q + 1) = m := by omega
                  have GQ : Hid (∀ (u : World) (F : Nat → Prop), IsText u tb F (undoN T (T.bs.length - q)) → Calls Try.prog 19 #[.pointer (some ⟨tb, 0, none⟩)] u fun e w' => e = .returned (.int .i64 0) ∧ ∃ F', IsText w' tb F' (undoN T (T.bs.length - (q + 1))) ∧ Moved F F' u w') := fun u F h => by
                    rw [hm] at h
                    have k := redoT h
                    rw [GR0.out m (by omega)] at k
                    rw [hm2]
                    exact k
                  clear hm hm2
                  go_wp2_with (go_at_call 19; refine (GQ.out _ _ HTq.out).mono ?_; rintro e w9 ⟨rfl, F9, t9, m9⟩; have T9 := (hid t9); clear t9)
                  have F9' := hid (m9.ge HFq.out zq)
                  have B9 := hid (HBq.out.trans (m9.below HFq.out zq))
                  go_roundw
                  case rel => exact ⟨q + 1, F9, by go_num, by omega, T9.out, F9'.out, B9.out⟩
                  case measure => simp [intOf]; omega
                · obtain rfl : q = T.bs.length := by omega
                  have HTz : Hid (IsText wr tb Fq T) := by have := HTq.out; rw [Nat.sub_self] at this; exact this
                  go_wp2_with (first
                    | (go_at_call 12; refine (stepsT HTz.out).mono ?_; rintro e wa ⟨rfl, hwa⟩; subst wa)
                    | (go_at_call 13; refine (stringT HTz.out.drew).mono ?_; rintro e wb ⟨rfl, Fb, tb', mb⟩))
                  go_ret
                  exact ⟨by first | rfl | simp, HBq.out.drew.trans (mb.below HFq.out zq)⟩

set_option maxRecDepth 100000 in
theorem pieceBack_lifted (os : Os) (started : os.Started) (H : Type) (enc : TypeId × Value → H) :
    ReturnsInHanded {} Try.checked os 5 .any (Rows.pieceBackSpec.pre6 enc Try.prog Try.f5 Rows.pieceBackRow.domain false) (Rows.pieceBackSpec.post enc Try.prog Try.f5 false true false false) := by
  refine returnsInHanded_of_change (C := Try.checked) Try.own started (by kernel_rfl) Try.func5
    (ChangeSpec.witness6 (enc := enc) (C := Try.checked) false ⟨#[], #[.string .empty, .slice none 0 0], []⟩ 8 (by kernel_rfl) (by kernel_rfl) (by kernel_rfl) (by kernel_rfl)) ?_
  intro W base args ds gs before hval0 hW hcnd _
  have hval : ∀ (j : Nat) t v, Try.f5.params[j]? = some t → args[j]? = some v → Value.okWide Try.prog W .any base t v := hval0
  have hW' := hW
  obtain ⟨p, q, hA0, hV, rfl, hfz, hnd⟩ := hW
  have hA : DataW.TrodAll enc Try.prog W 0 (fun _ => true) true Try.f5.params.toList args.toList ds p := hA0
  rw [Try.params5] at hA hval
  obtain ⟨s, acts, ao, cap, d0, d1, rfl, rfl, hs, hl, hAc, hai⟩ := open_sacts hval hA
  obtain ⟨rfl, rfl⟩ := trodVars_none hV
  clear hA0 hval0
  refine (backWalk s acts ao cap W hs hl hAc hai).mono fun e W' ⟨he, hb⟩ => ?_
  subst he
  exact ⟨_, rfl, law_post (by kernel_rfl) rfl (by kernel_rfl) rfl hW' hb⟩

theorem pieceBack_holds : Rows.PieceBackSaid :=
  OpenClaim.holds_of_wide 5 Try.f5 rfl rfl rfl rfl rfl rfl rfl ⟨rfl, rfl, rfl, rfl, rfl⟩ rfl rfl rfl rfl rfl (by kernel_rfl) Try.func5 (by kernel_rfl)
    (of_decide_eq_true (by kernel_rfl)) (by unfold Func.isWrapper; first | (rw [if_pos (by decide +kernel)]; kernel_rfl) | (rw [if_neg (by decide +kernel)]; exact ⟨rfl, rfl⟩))
    (fun os started H enc _ => pieceBack_lifted os started H enc)

end Go.Proofs.Ytnhabinnmkjnbaa
