/- PieceForgets, of every text s and every list of edits: of the edits that are done just the last thirty-two can be undone; what is come back to then is what the others made. -/
import Derived.Test.YtnhabinnmkjnbaaEds
namespace Go.Proofs.Ytnhabinnmkjnbaa
open Go.ChangeShapes Go.WideShapes Go.ChangeAt Go.RowKit
open Go.ChangeMaps (open_string shut_string)

theorem info9 : (Try.prog.info? 9).map (fun i => (i.zero, i.size, i.bytes)) = some (some (.string ⟨#[]⟩), 1, 16) := by kernel_rfl

/-- the texts that there were behind the edits that were done, and the text's stand -/
def Hist (s : ByteArray) (all : List ByteArray) (T : St) : Prop := ∃ rest, all.reverse ++ [s] = T.now :: rest ∧ T.bs = rest.take 32 ∧ T.fw = []

theorem Hist.start (s : ByteArray) : Hist s [] ⟨[], s, []⟩ := ⟨[], rfl, rfl, rfl⟩
theorem Hist.edit {s t : ByteArray} {a n : Int} {all : List ByteArray} {T : St} (h : Hist s all T) (he : (T.edit t a n).1 = 0) : Hist s (all ++ [(T.edit t a n).2.now]) (T.edit t a n).2 := by
  obtain ⟨rest, h1, h2, h3⟩ := h
  by_cases e : errNo T.now.size a n t.size = 0
  · have hE : T.edit t a n = (0, ⟨(T.now :: T.bs).take 32, madeOf T.now t a.toNat n.toNat, []⟩) := if_pos e
    rw [hE]
    refine ⟨T.now :: rest, by simp [h1], ?_, rfl⟩
    show (T.now :: T.bs).take 32 = _
    rw [h2, List.take_succ_cons, List.take_succ_cons, List.take_take]
    rfl
  · have hE : T.edit t a n = (errNo T.now.size a n t.size, T) := if_neg e
    rw [hE] at he
    exact absurd he e
theorem edit_same {t : ByteArray} {a n : Int} {T : St} (he : (T.edit t a n).1 ≠ 0) : (T.edit t a n).2 = T := by
  unfold St.edit at he ⊢
  by_cases e : errNo T.now.size a n t.size = 0
  · rw [if_pos e] at he; exact absurd rfl he
  · rw [if_neg e]

/-- what is come back to -/
def wantB (s : ByteArray) (all : List ByteArray) : ByteArray := if 32 < all.length then all.getD (all.length - 33) ⟨#[]⟩ else s

theorem Hist.bottom {s : ByteArray} {all : List ByteArray} {T U : St} {q : Nat} (h : Hist s all T) (hd : (T.now :: T.bs).drop q = U.now :: U.bs) (hb : U.bs = []) : q = min all.length 32 ∧ U.now = wantB s all := by
  obtain ⟨rest, h1, h2, h3⟩ := h
  have hl : rest.length = all.length := by
    have := congrArg List.length h1
    simp at this
    omega
  rw [h2, hb] at hd
  have hlen := congrArg List.length hd
  simp only [List.length_drop, List.length_cons, List.length_take, List.length_nil] at hlen
  have hq : q = min all.length 32 := by omega
  refine ⟨hq, ?_⟩
  have e1 : (T.now :: rest.take 32)[q]? = some U.now := by
    have := congrArg (fun l => l[0]?) hd
    simp only [List.getElem?_drop, Nat.add_zero] at this
    simpa using this
  have e2 : (T.now :: rest.take 32) = (T.now :: rest).take 33 := rfl
  rw [e2, List.getElem?_take, if_pos (by omega), ← h1] at e1
  unfold wantB
  by_cases hc : 32 < all.length
  · rw [if_pos hc]
    rw [List.getElem?_append_left (by rw [List.length_reverse]; omega), List.getElem?_reverse (by omega)] at e1
    rw [List.getD_eq_getElem?_getD, show all.length - 33 = all.length - 1 - q by omega, e1]
    rfl
  · rw [if_neg hc]
    rw [List.getElem?_append_right (by rw [List.length_reverse]; omega), List.length_reverse, show q - all.length = 0 by omega] at e1
    simpa using e1.symm

def strC (l : List ByteArray) : List Value := l.map Value.string

set_option maxRecDepth 100000 in
set_option maxHeartbeats 8000000 in
theorem forgetsWalk (s : ByteArray) (es : List Ed) (ao : Option Addr) (cap : Nat) (w : World) (hs : s.size ≤ 9223372036854775807) (hl : es.length ≤ 9223372036854775807) (hA : EdsAt w ao es) (hBl : ∀ ad, ao = some ad → es ≠ [] → ad.block < w.heap.size)
    (hai : ∀ e ∈ es, e.a ≤ 9223372036854775807) :
    Calls Try.prog 7 #[.string s, .slice ao es.length cap] w fun e w' => e = .returned (.bool true) ∧ Below w.heap.size w w' := by
  obtain ⟨i0, hi, hz0, hz1, hz2⟩ := info_parts info9
  have GW : Hid (∀ u, Calls Try.prog 8 #[] u fun e w' => e = .returned (.bool true) ∧ Below u.heap.size u w') := wakesT
  have HL := fun (u : World) (hu : EdsAt u ao es) => long10_eds s es ao cap u hs hl hu
  have HA := hid hA
  by_cases hb4 : 4000 < s.size
  · have hb4' : (4000 : Int) < s.size := by omega
    clear HL hA
    go_enter Try.func7, Try.ntmps7
    go_wp2_with (first
      | (go_at_call 8; refine (GW.out _).mono ?_; rintro e w1 ⟨rfl, hb1⟩))
    go_ret
    exact ⟨rfl, hb1⟩
  · have hb4' : ¬ (4000 : Int) < s.size := by omega
    cases hlb : longB s.size (es.map Ed.t) with
    | true =>
      rw [hlb] at HL
      have GL := hid HL
      clear HL hlb hA
      go_enter Try.func7, Try.ntmps7
      go_wp2_with (first
        | (go_at_call 8; refine (GW.out _).mono ?_; rintro e w1 ⟨rfl, hb1⟩)
        | (go_at_call 20; refine (GL.out _ (HA.out.keep hb1)).mono ?_; rintro e w2 ⟨rfl, hw2⟩; subst w2))
      go_ret
      exact ⟨rfl, hb1⟩
    | false =>
      rw [hlb] at HL
      have GL := hid HL
      obtain ⟨_, l2, l3⟩ := longB_eds hlb
      have GN : Hid (∀ u, Calls Try.prog 10 #[.string s] u fun e w' => ∃ tb F, e = .returned (.tuple #[.pointer (some ⟨tb, 0, none⟩), .int .i64 0]) ∧ IsText w' tb F ⟨[], s, []⟩ ∧ (∀ k, F k → u.heap.size ≤ k) ∧ Below u.heap.size u w') := fun u => newT s u (by omega)
      have L3 := hid l3
      have HAI := hid hai
      have HBL := hid hBl
      clear HL hlb hA l3 hai hBl
      go_enter Try.func7, Try.ntmps7
      go_wp2_with (first
        | (go_at_call 8; refine (GW.out _).mono ?_; rintro e w1 ⟨rfl, hb1⟩)
        | (go_at_call 20; refine (GL.out _ (HA.out.keep hb1)).mono ?_; rintro e w2 ⟨rfl, hw2⟩; subst w2)
        | (go_at_call 10; refine (GN.out _).mono ?_; rintro e w3 ⟨tb, F0, rfl, ht0, hF00, hb3⟩))
      have BW : Below w.heap.size w w3 := bl_step hb1 hb3
      have zb := hb1.size
      go_loopw [7, 29] (fun v i wr => ∃ (k : Nat) (all : List ByteArray) (F : Nat → Prop) (T : St), i = .int .i64 k ∧ k ≤ es.length ∧ all.length ≤ k ∧ wr.ownsRow w.heap.size 9 1 v all.length (strC all) ∧ IsText wr tb F T ∧ Hist s all T ∧ (∀ j, F j → w.heap.size ≤ j) ∧ (∀ j, v.ownBlock = some j → ¬ F j) ∧ Below w.heap.size w wr) (fun _ i _ => es.length - (intOf i).toNat)
      case atStart => exact ⟨0, [], F0, _, rfl, Nat.zero_le _, Nat.le_refl _, World.ownsRow_nil _ _ _ _, ht0, Hist.start s, fun j hj => Nat.le_trans zb (hF00 j hj), (fun j e => by cases e), BW⟩
      case round =>
        clear hF00 ht0 hb1 hb3 BW
        obtain ⟨k, all, F, T, rfl, hk, hal, hown, ht, hh, hF, hd, hbl⟩ := hrel
        have hzw := hbl.size
        by_cases hlt : k < es.length
        · have hne : es ≠ [] := by intro e; rw [e] at hlt; simp at hlt
          obtain ⟨b, off, hao, hE⟩ := HA.out hne
          subst hao
          have hbw : b < w.heap.size := HBL.out _ rfl hne
          obtain ⟨c0, c1, c2⟩ := hE.keepB hbl hbw k hlt
          have hsz : es[k].t.size ≤ 5000 := L3.out _ (List.getElem_mem hlt)
          have hae := HAI.out _ (List.getElem_mem hlt)
          have hlt' : (k : Int) < es.length := by omega
          obtain ⟨ea, hea⟩ : ∃ x, es[k].a = x := ⟨_, rfl⟩
          obtain ⟨en, hen⟩ : ∃ x, es[k].n = x := ⟨_, rfl⟩
          obtain ⟨et, het⟩ : ∃ x, es[k].t = x := ⟨_, rfl⟩
          rw [hea] at c0 hae
          rw [hen] at c1
          rw [het] at c2 hsz
          have HT := hid ht
          have HH := hid hh
          have HOWN := hid hown
          have HD := hid hd
          have HF := hid hF
          have HBel := hid hbl
          clear hE ht hh hown hd hF hbl hea hen het
          obtain ⟨R, hR⟩ : ∃ R, T.edit et ea en = R := ⟨_, rfl⟩
          have GE : Hid (∀ u F, IsText u tb F T → Calls Try.prog 15 #[.pointer (some ⟨tb, 0, none⟩), .agg #[.int .i64 ea, .int .i64 en, .string et]] u fun e w' => e = .returned (.int .i64 R.1) ∧ ∃ F', IsText w' tb F' R.2 ∧ Moved F F' u w') := fun u F h => by
            have q := editT h et ea en (by omega) hae
            rw [hR] at q
            exact q
          by_cases hR0 : R.1 = 0
          · have HH2 : Hid (Hist s (all ++ [R.2.now]) R.2) := by
              have := HH.out.edit (t := et) (a := ea) (n := en) (by rw [hR]; exact hR0)
              rw [hR] at this
              exact this
            clear hR
            rw [hR0] at GE
            go_wp2_with (first
              | (go_at_call 15; refine (GE.out _ _ (HT.out.low ((Below.refl _ _).alloc (Nat.le_refl _) _))).mono ?_; rintro e w4 ⟨rfl, F4, ht4, m4⟩)
              | (go_at_call 13; refine (stringT ht4).mono ?_; rintro e w5 ⟨rfl, F5, ht5, m5⟩; have M := hid (m4.trans m5); have O5 := hid (own_keep (HOWN.out.alloc _) (fun j e => M.out.1.block j (own_lt (HOWN.out.alloc _) e).1 (HD.out j e))); have z5 : w.heap.size ≤ w5.heap.size := (by (have := M.out.1.size; simp at this; omega)))
              | (at_builtin; refine wpList_append_lies _ rfl _ _ 30 rfl w.heap.size 9 i0 (.string ⟨#[]⟩) 1 16 Try.underlying30 hi hz0 hz1 hz2 rfl (by decide) _ all.length (strC all) rfl (O5.out.alloc _) ⟨w5.heap.size, 0, none⟩ 1 1 (strC [R.2.now]) rfl rfl (World.news_of_block (cs := #[.string R.2.now]) (heap_alloc_new _ _)) (by (intro u hu); (simp [strC] at hu); (subst hu); rfl) (by omega) (by (unfold maxLen); omega) (by omega) (by (simp; omega)) (w5.heap.size + 1) (by simp) ?_; intro g cap5 w6 hown6 hgrow hat hlt6))
            go_roundw
            case rel =>
              have hdn : ∀ j, u7.ownBlock = some j → ¬ F5 j := fun j e hf => by
                rcases M.out.2 j hf with h1 | h1
                · exact HD.out j e h1
                · have := (own_lt HOWN.out e).1
                  simp at h1
                  omega
              have K6 : Kept (fun j => u7.ownBlock = some j) (w5.alloc (.cells #[.string R.2.now] 9)) w6 := (Kept.refl _ _).grown hgrow (fun j _ e => e)
              have T5 := ht5.low ((Below.refl _ _).alloc (Nat.le_refl _) (.cells #[.string R.2.now] 9))
              have hF5 : ∀ j, F5 j → w.heap.size ≤ j := M.out.ge HF.out (by simp; omega)
              refine ⟨k + 1, all ++ [R.2.now], F5, R.2, by go_num, by omega, by simp; omega, ?_, T5.keep K6 (fun j hj e => hdn j e hj), HH2.out, hF5, ?_, ?_⟩
              · rw [List.length_append]
                unfold strC at hown6 ⊢
                rw [List.map_append]
                exact hown6
              · intro j e hf
                simp [Value.ownBlock] at e
                subst e
                rcases hat with e2 | e2
                · exact hdn g e2 hf
                · have := ht5.lt hf
                  omega
              · have B5 : Below w.heap.size (wr.alloc (.cells #[.int .i64 ea, .int .i64 en, .string et] 34)) w5 := M.out.below HF.out (by simp; omega)
                exact (((HBel.out.alloc hzw _).trans B5).alloc z5 _).grown hgrow (by simp; omega) (fun j e => (HOWN.out.lt j e).1)
            case measure => simp [intOf]; omega
          · have HS : Hid (R.2 = T) := by
              rw [← hR]
              exact edit_same (by rw [hR]; exact hR0)
            clear hR
            have hR0' : (R.1 == 0) = false := by simpa using hR0
            go_wp2_with (first
              | (go_at_call 15; refine (GE.out _ _ (HT.out.low ((Below.refl _ _).alloc (Nat.le_refl _) _))).mono ?_; rintro e w4 ⟨rfl, F4, ht4, m4⟩))
            go_roundw
            case rel =>
              have hF4 : ∀ j, F4 j → w.heap.size ≤ j := m4.ge HF.out (by simp; omega)
              refine ⟨k + 1, all, F4, T, by go_num, by omega, by omega, ?_, HS.out ▸ ht4, HH.out, hF4, ?_, ?_⟩
              · exact own_keep (HOWN.out.alloc _) (fun j e => m4.1.block j (own_lt (HOWN.out.alloc _) e).1 (HD.out j e))
              · intro j e hf
                rcases m4.2 j hf with h1 | h1
                · exact HD.out j e h1
                · have := (own_lt HOWN.out e).1
                  simp at h1
                  omega
              · exact (HBel.out.alloc hzw _).trans (m4.below HF.out (by simp; omega))
            case measure => simp [intOf]; omega
        · obtain rfl : k = es.length := by omega
          have HT := hid ht
          have HH := hid hh
          have HOWN := hid hown
          have HD := hid hd
          have HF := hid hF
          have HBel := hid hbl
          clear ht hh hown hd hF hbl
          go_wp2
          go_loopw [10] (fun v wq => ∃ (q : Nat) (G : Nat → Prop) (U : St), v = .int .i64 q ∧ q ≤ 32 ∧ IsText wq tb G U ∧ (T.now :: T.bs).drop q = U.now :: U.bs ∧ wq.ownsRow w.heap.size 9 1 u7 all.length (strC all) ∧ (∀ j, G j → w.heap.size ≤ j) ∧ (∀ j, u7.ownBlock = some j → ¬ G j) ∧ Below w.heap.size w wq) (fun v _ => 33 - (intOf v).toNat)
          case atStart => exact ⟨0, F, T, rfl, by omega, HT.out, rfl, HOWN.out, HF.out, HD.out, HBel.out⟩
          case round =>
            obtain ⟨q, G, U, rfl, hq, hu, hdq, hown, hG, hd, hbl⟩ := hrel
            have hfew : T.bs.length ≤ 32 := by have := HT.out.few; omega
            have hzq := hbl.size
            cases hub : U.bs with
            | cons b bs =>
              have hE : U.undo = (0, ⟨bs, b, U.now :: U.fw⟩) := by unfold St.undo; rw [hub]
              have GU : Hid (∀ u G, IsText u tb G U → Calls Try.prog 18 #[.pointer (some ⟨tb, 0, none⟩)] u fun e w' => e = .returned (.int .i64 0) ∧ ∃ F', IsText w' tb F' ⟨bs, b, U.now :: U.fw⟩ ∧ Moved G F' u w') := fun u G h => by
                have k := undoT h
                rw [hE] at k
                exact k
              have hq1 : q + 1 ≤ 32 := by
                have := congrArg List.length hdq
                rw [hub] at this
                simp only [List.length_drop, List.length_cons] at this
                omega
              have hq2 : ¬ (32 : Int) < (q : Int) + 1 := by omega
              have HU := hid hu
              have HO := hid hown
              have HG := hid hG
              have HD2 := hid hd
              have HB2 := hid hbl
              have HQ : Hid ((T.now :: T.bs).drop (q + 1) = b :: bs) := by
                have := congrArg (List.drop 1) hdq
                rw [List.drop_drop, hub] at this
                exact this
              have HZ := hid hzq
              have HQ1 := hid hq1
              clear hu hown hG hd hbl hdq hub hE hfew hzq hq1 hzw zb
              go_wp2_with (first
                | (go_at_call 18; refine (GU.out _ _ HU.out).mono ?_; rintro e w4 ⟨rfl, G4, ht4, m4⟩))
              go_roundw
              case rel =>
                refine ⟨q + 1, G4, _, by go_num, HQ1.out, ht4, HQ.out, ?_, m4.ge HG.out HZ.out, ?_, HB2.out.trans (m4.below HG.out HZ.out)⟩
                · exact own_keep HO.out (fun j e => m4.1.block j (own_lt HO.out e).1 (HD2.out j e))
                · intro j e hf
                  rcases m4.2 j hf with h1 | h1
                  · exact HD2.out j e h1
                  · have := (own_lt HO.out e).1
                    omega
              case measure => simp [intOf]; omega
            | nil =>
              have hE : U.undo = (4, U) := by unfold St.undo; rw [hub]
              have GU : Hid (∀ u G, IsText u tb G U → Calls Try.prog 18 #[.pointer (some ⟨tb, 0, none⟩)] u fun e w' => e = .returned (.int .i64 4) ∧ ∃ F', IsText w' tb F' U ∧ Moved G F' u w') := fun u G h => by
                have k := undoT h
                rw [hE] at k
                exact k
              obtain ⟨hqm, hwant⟩ := HH.out.bottom hdq hub
              have GS : Hid (∀ u G, IsText u tb G U → Calls Try.prog 13 #[.pointer (some ⟨tb, 0, none⟩)] u fun e w' => e = .returned (.string (wantB s all)) ∧ ∃ F', IsText w' tb F' U ∧ Moved G F' u w') := fun u G h => by
                have k := stringT h
                rw [hwant] at k
                exact k
              have HU := hid hu
              have HO := hid hown
              have HG := hid hG
              have HD2 := hid hd
              have HB2 := hid hbl
              have HZ := hid hzq
              clear hu hown hG hd hbl hdq hub hE hwant hfew hzq hzw zb
              by_cases hbig : 32 < all.length
              · obtain ⟨g, cap7, hu7⟩ : ∃ g cap7, u7 = .slice (some ⟨g, 0, none⟩) all.length cap7 := by
                  obtain ⟨g, cap7, e, _⟩ := HO.out.form (by omega)
                  exact ⟨g, cap7, e⟩
                subst hu7
                have hbig' : (32 : Int) < all.length := by omega
                obtain ⟨L, hL⟩ : ∃ L, all.length = L + 33 := ⟨all.length - 33, by omega⟩
                have hW : Hid (wantB s all = all.getD L ⟨#[]⟩) := by
                  unfold Hid wantB
                  rw [if_pos hbig, show all.length - 33 = L by omega]
                obtain ⟨wv, hwv⟩ : ∃ wv, all.getD L ⟨#[]⟩ = wv := ⟨_, rfl⟩
                have HC : Hid (∀ u : World, u.ownsRow w.heap.size 9 1 (.slice (some ⟨g, 0, none⟩) all.length cap7) all.length (strC all) → u.cell? ⟨g, L, none⟩ = some (.string wv)) := fun u hu => by
                  have c := hu.cells (g := g) rfl L (.string wv) (by
                    unfold strC
                    rw [List.getElem?_map, ← hwv, List.getD_eq_getElem?_getD, List.getElem?_eq_getElem (by omega)]
                    rfl)
                  rw [add_off, Nat.zero_add] at c
                  exact c
                unfold Hid at hW
                rw [hW, hwv] at GS
                have hq3 : q = 32 := by omega
                clear hqm
                subst hq3
                have hi1 : (all.length : Int) - 32 - 1 = L := by omega
                have hmin : min (all.length : Int) 32 = 32 := by omega
                clear hW hwv hmin hbig hq hlt hk
                rw [hL] at hbig' hi1
                rw [hL]
                have hLb : (L : Int) ≤ 100 := by omega
                have hmn : ∀ (u : World) ts ty, (Builtin.min_ ts ty #[.int .i64 ((L : Int) + 33), .int .i64 32]).run Try.prog u = .ok (.int .i64 32) u := by
                  intro u ts ty
                  rw [run_min_int2, if_pos (by omega)]
                have HLL := hid hL
                clear hL hal hi1
                go_wp2_with (first
                  | (go_at_call 18; refine (GU.out _ _ HU.out).mono ?_; rintro e w4 ⟨rfl, G4, ht4, m4⟩; have CC := HC.out w4 (own_keep HO.out (fun j e => m4.1.block j (own_lt HO.out e).1 (HD2.out j e))))
                  | (go_at_call 13; refine (GS.out _ _ ht4).mono ?_; rintro e w5 ⟨rfl, G5, ht5, m5⟩))
                go_ret
                have b4 := m4.below HG.out HZ.out
                have z4 := Nat.le_trans HZ.out m4.1.size
                exact ⟨rfl, (HB2.out.trans b4).trans (m5.below (m4.ge HG.out HZ.out) z4)⟩
              · obtain ⟨a7, cap7, hu7⟩ : ∃ a7 cap7, u7 = .slice a7 all.length cap7 := by
                  rcases Joins.ownsRow_forms HO.out with ⟨e, h0⟩ | ⟨g, cap7, e⟩
                  · exact ⟨none, 0, by rw [e, h0]⟩
                  · exact ⟨_, _, e⟩
                subst hu7
                have hbig' : ¬ (32 : Int) < all.length := by omega
                have hW : wantB s all = s := by unfold wantB; rw [if_neg hbig]
                rw [hW] at GS
                have hq3 : q = all.length := by omega
                clear hqm
                subst hq3
                clear hW hal hbig hq hlt hk
                obtain ⟨m, hm⟩ : ∃ m, all.length = m := ⟨_, rfl⟩
                rw [hm] at hbig' ⊢
                have hmb : (m : Int) ≤ 32 := by omega
                have hmn : ∀ (u : World) ts ty, (Builtin.min_ ts ty #[.int .i64 (m : Int), .int .i64 32]).run Try.prog u = .ok (.int .i64 (m : Int)) u := by
                  intro u ts ty
                  rw [run_min_int2, if_neg (by omega)]
                clear hm hbig' l2 hl hs
                go_wp2_with (first
                  | (go_at_call 18; refine (GU.out _ _ HU.out).mono ?_; rintro e w4 ⟨rfl, G4, ht4, m4⟩)
                  | (go_at_call 13; refine (GS.out _ _ ht4).mono ?_; rintro e w5 ⟨rfl, G5, ht5, m5⟩))
                go_ret
                have b4 := m4.below HG.out HZ.out
                have z4 := Nat.le_trans HZ.out m4.1.size
                exact ⟨rfl, (HB2.out.trans b4).trans (m5.below (m4.ge HG.out HZ.out) z4)⟩

theorem open_seds {H : Type} {enc : TypeId × Value → H} {W : World} {base : Nat} {args : Array Value} {ds : List (DataW H)} {p : List MemPlace}
    (hval : ∀ (j : Nat) t v, #[9, 50][j]? = some t → args[j]? = some v → Value.okWide Try.prog W .any base t v)
    (hA : DataW.TrodAll enc Try.prog W 0 (fun _ => true) true [9, 50] args.toList ds p) :
    ∃ (s : ByteArray) (es : List Ed) (ao : Option Addr) (cap : Nat) (d0 d1 : DataW H), args = #[.string s, .slice ao es.length cap] ∧ ds = [d0, d1] ∧ s.size ≤ 9223372036854775807 ∧ es.length ≤ 9223372036854775807 ∧ EdsAt W ao es ∧ (∀ ad, ao = some ad → es ≠ [] → ad.block < W.heap.size) ∧ (∀ e ∈ es, e.a ≤ 9223372036854775807) := by
  obtain ⟨v0, v1, d0, d1, p0, p1, rfl, rfl, rfl, h0, h1⟩ := trodAll_two hA
  obtain ⟨s, rfl, rfl, rfl, hs⟩ := open_string Try.underlying9 (hval 0 9 v0 rfl rfl) h0
  obtain ⟨es, ao, cap, rfl, hA0', h0', hS', hl⟩ := open_eds (hval 1 50 v1 rfl rfl) h1
  refine ⟨s, es, ao, cap, _, _, rfl, rfl, wide_lt hs, hl, hA0', ?_, hS'⟩
  intro ad e hne
  obtain ⟨b, off, e2, hE⟩ := hA0' hne
  rw [e] at e2
  cases e2
  have hpos : 0 < es.length := List.length_pos_iff.2 hne
  exact World.block_lt_of_cell? W _ (hE 0 hpos).1

set_option maxRecDepth 100000 in
theorem pieceForgets_lifted (os : Os) (started : os.Started) (H : Type) (enc : TypeId × Value → H) :
    ReturnsInHanded {} Try.checked os 7 .any (Rows.pieceForgetsSpec.pre6 enc Try.prog Try.f7 Rows.pieceForgetsRow.domain false) (Rows.pieceForgetsSpec.post enc Try.prog Try.f7 false true false false) := by
  refine returnsInHanded_of_change (C := Try.checked) Try.own started (by kernel_rfl) Try.func7
    (ChangeSpec.witness6 (enc := enc) (C := Try.checked) false ⟨#[], #[.string .empty, .slice none 0 0], []⟩ 8 (by kernel_rfl) (by kernel_rfl) (by kernel_rfl) (by kernel_rfl)) ?_
  intro W base args ds gs before hval0 hW hcnd _
  have hval : ∀ (j : Nat) t v, Try.f7.params[j]? = some t → args[j]? = some v → Value.okWide Try.prog W .any base t v := hval0
  have hW' := hW
  obtain ⟨p, q, hA0, hV, rfl, hfz, hnd⟩ := hW
  have hA : DataW.TrodAll enc Try.prog W 0 (fun _ => true) true Try.f7.params.toList args.toList ds p := hA0
  rw [Try.params7] at hA hval
  obtain ⟨s, es, ao, cap, d0, d1, rfl, rfl, hs, hl, hE, hB, hS⟩ := open_seds hval hA
  obtain ⟨rfl, rfl⟩ := trodVars_none hV
  clear hA0 hval0
  refine (forgetsWalk s es ao cap W hs hl hE hB hS).mono fun e W' ⟨he, hb⟩ => ?_
  subst he
  exact ⟨_, rfl, law_post (by kernel_rfl) rfl (by kernel_rfl) rfl hW' hb⟩

theorem pieceForgets_holds : Rows.PieceForgetsSaid :=
  OpenClaim.holds_of_wide 7 Try.f7 rfl rfl rfl rfl rfl rfl rfl ⟨rfl, rfl, rfl, rfl, rfl⟩ rfl rfl rfl rfl rfl (by kernel_rfl) Try.func7 (by kernel_rfl)
    (of_decide_eq_true (by kernel_rfl)) (by unfold Func.isWrapper; first | (rw [if_pos (by decide +kernel)]; kernel_rfl) | (rw [if_neg (by decide +kernel)]; exact ⟨rfl, rfl⟩))
    (fun os started H enc _ => pieceForgets_lifted os started H enc)

end Go.Proofs.Ytnhabinnmkjnbaa
