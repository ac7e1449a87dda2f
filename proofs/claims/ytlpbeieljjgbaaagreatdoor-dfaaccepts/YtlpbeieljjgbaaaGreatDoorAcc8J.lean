/- DfaAccepts' walk. -/
import Derived.Test.YtlpbeieljjgbaaaGreatDoorJ42
namespace Go.Proofs.YtlpbeieljjgbaaaGreatDoor
open Go.RowKit

/-- what the law's loop has found, from rule k on -/
def Frm8 (ts : List Rx) (s : Txt) (k : Nat) (a : Int) : Prop := (a = -1 ∧ ∀ r (h : r < ts.length), k ≤ r → ¬ Mat ts[r] s) ∨ ∃ r, ∃ h : r < ts.length, k ≤ r ∧ a = (r : Int) ∧ Mat ts[r] s ∧ ∀ r' (h' : r' < ts.length), k ≤ r' → r' < r → ¬ Mat ts[r'] s
theorem frm8_end (ts : List Rx) (s : Txt) : Frm8 ts s ts.length (-1) := Or.inl ⟨rfl, fun r h h' => by omega⟩
theorem frm8_yes {ts : List Rx} {s : Txt} {k : Nat} (h : k < ts.length) (hm : Mat ts[k] s) : Frm8 ts s k (k : Int) := Or.inr ⟨k, h, Nat.le_refl _, rfl, hm, fun r' _ h1 h2 => by omega⟩
theorem frm8_no {ts : List Rx} {s : Txt} {k : Nat} {a : Int} (h : k < ts.length) (hm : ¬ Mat ts[k] s) (hf : Frm8 ts s (k + 1) a) : Frm8 ts s k a := by
  have key : ∀ r (hr : r < ts.length), k ≤ r → (k + 1 ≤ r → ¬ Mat ts[r] s) → ¬ Mat ts[r] s := fun r hr h1 h2 => by
    by_cases e : r = k
    · subst e; exact hm
    · exact h2 (by omega)
  rcases hf with ⟨h1, h2⟩ | ⟨r, hr, h1, h2, h3, h4⟩
  · exact Or.inl ⟨h1, fun r hr hk => key r hr hk (h2 r hr)⟩
  · exact Or.inr ⟨r, hr, by omega, h2, h3, fun r' hr' hk hlt => key r' hr' hk (fun h5 => h4 r' hr' h5 hlt)⟩
theorem frm8_acc {ts : List Rx} {all : List Sp} {n : Nat} {s : Txt} {a : Int} (B : Blt ts all n) (h : Frm8 ts s 0 a) : accB (nxtK all n) (accK all n) s = a := by
  rw [accB_built B.ru B.to]
  rcases h with ⟨rfl, h2⟩ | ⟨r, hr, _, rfl, h3, h4⟩
  · exact accG_none B.ru B.to.fin B.to.on s (fun r hr => h2 r hr (Nat.zero_le _))
  · exact accG_some B.ru B.to.fin B.to.on s hr h3 (fun r' hr' hlt => h4 r' hr' (Nat.zero_le _) hlt)
set_option maxRecDepth 20000 in
set_option maxHeartbeats 8000000 in
theorem acceptsWalk (v : Value) (L : List (List Cel)) (s : Txt) (w : World) (hl : L.length * 24 ≤ 140737488351232) (hls : s.length ≤ 140737488351232) (hA : Celss w v L) (hT : Tab w) :
    Calls Tryz.prog 5 #[v, .string (strT s)] w fun e w' => e = .returned (.bool true) ∧ Below w.heap.size w w' := by
  have GW := hid (wakes8 w hT)
  have GH := hid (fun u (hu : Below w.heap.size w u) => heavyC v L u (by omega) (hA.keep hu))
  obtain ⟨va, vc, rfl⟩ : ∃ a c, v = .slice a L.length c := by obtain ⟨a, c, e, _⟩ := hA; exact ⟨a, c, e⟩
  have hsz := strT_size s
  cases hh : heavyB L with
  | true =>
    rw [hh] at GH
    clear hA hT hh
    go_enter Tryz.func5, Tryz.ntmps5
    go_wp2_with (first
      | (go_at_call 8; refine GW.out.mono ?_; rintro e w1 ⟨rfl, hb1⟩)
      | (go_at_call 14; refine (GH.out w1 hb1).mono ?_; rintro e u ⟨rfl, hu⟩; subst u))
    go_ret
    exact ⟨rfl, hb1⟩
  | false =>
    rw [hh] at GH
    obtain ⟨hL20, hl40⟩ := light hh
    have GR := hid (fun u (hu : Below w.heap.size w u) => rightsC _ L u (by omega) (hA.keep hu))
    cases hr : (L.all rightB && decide (L.length ≤ 16)) with
    | false =>
      rw [hr] at GR
      clear hA hT hh hr hl40
      go_enter Tryz.func5, Tryz.ntmps5
      go_wp2_with (first
        | (go_at_call 8; refine GW.out.mono ?_; rintro e w1 ⟨rfl, hb1⟩)
        | (go_at_call 14; refine (GH.out w1 hb1).mono ?_; rintro e u ⟨rfl, hu⟩; subst u)
        | (go_at_call 19; refine (GR.out w1 hb1).mono ?_; rintro e u ⟨rfl, hu⟩; subst u))
      go_ret
      exact ⟨rfl, hb1⟩
    | true =>
      rw [hr] at GR
      by_cases h200 : s.length ≤ 100
      case neg =>
        have h200z : (100 : Int) < (s.length : Int) := by omega
        clear hA hT hh hr hl40
        go_enter Tryz.func5, Tryz.ntmps5
        go_wp2_with (first
          | (go_at_call 8; refine GW.out.mono ?_; rintro e w1 ⟨rfl, hb1⟩)
          | (go_at_call 14; refine (GH.out w1 hb1).mono ?_; rintro e u ⟨rfl, hu⟩; subst u)
          | (go_at_call 19; refine (GR.out w1 hb1).mono ?_; rintro e u ⟨rfl, hu⟩; subst u))
        go_ret
        exact ⟨rfl, hb1⟩
      have h200z : ¬ (100 : Int) < (s.length : Int) := by omega
      rw [Bool.and_eq_true, decide_eq_true_iff] at hr
      obtain ⟨ts, hts, hok⟩ := trees_of hr.1
      have h16 : ts.length ≤ 16 := by have := hr.2; rw [hts, List.length_map] at this; exact this
      have GC := hid (fun u (hu : Below w.heap.size w u) => copiedC _ L u (hA.keep hu) (by omega) (fun l h => by have := hl40 l h; omega))
      have GB := hid (fun v' u (hc : Celss u v' L) (hu : Below w.heap.size w u) => buildGood v' ts u (by rw [← hts]; exact hc) h16 hok (hT.keep hu))
      have hans := hid (fun u nv av er (h : BldR ts u nv av er) => blt_of hok h)
      have hshC : Hid (∀ u v', Celss u v' L → ∃ a c, v' = .slice a L.length c) := hid (fun u v' h => by obtain ⟨a, c, e, _⟩ := h; exact ⟨a, c, e⟩)
      have hLen : ts.length = L.length := by rw [hts, List.length_map]
      have GF : Hid (∀ k (hk : k < L.length) (hk' : k < ts.length) u, Below w.heap.size w u → ∃ b o x, va = some ⟨b, o, none⟩ ∧ u.cell? ⟨b, o + k, none⟩ = some x ∧ Calls Tryz.prog 20 #[x, .string (strT s)] u fun e w' => ∃ r : Bool, e = .returned (.bool r) ∧ (r = true ↔ Mat ts[k] s) ∧ Below u.heap.size u w') := hid (fun k hk hk' u hu => by
        obtain ⟨a', c', e1, _, _, hC⟩ := hA.keep hu
        injection e1 with e1 e2 e3
        obtain ⟨b1, o1, x, e4, hb1, hx, hC1⟩ := hC k hk
        refine ⟨b1, o1, x, e1.trans e4, hx, ?_⟩
        have e5 : L[k] = post ts[k] := by
          have : L[k]? = (ts.map post)[k]? := by rw [← hts]
          rw [List.getElem?_eq_getElem hk, List.getElem?_map, List.getElem?_eq_getElem hk'] at this
          simpa using this
        rw [e5] at hC1
        exact fitsC ts[k] x s u hC1 (hok _ (List.getElem_mem hk')).2 (by omega))
      have hLen := hid hLen
      clear hA hT hh hr hl40 hts hok
      go_enter Tryz.func5, Tryz.ntmps5
      go_wp2_with (first
        | (go_at_call 8; refine GW.out.mono ?_; rintro e w1 ⟨rfl, hb1⟩)
        | (go_at_call 14; refine (GH.out w1 hb1).mono ?_; rintro e u ⟨rfl, hu⟩; subst u)
        | (go_at_call 19; refine (GR.out w1 hb1).mono ?_; rintro e u ⟨rfl, hu⟩; subst u)
        | (go_at_call 16; refine (GC.out w1 hb1).mono ?_; rintro e w2 ⟨v2, rfl, hC2, hb2⟩; obtain ⟨a2, c2, rfl⟩ := hshC.out _ _ hC2; have hb02 := hid (bl_step hb1 hb2); have hC2 := hid hC2)
        | (go_at_call 15; refine (GB.out _ w2 hC2.out hb02.out).mono ?_; rintro e w3 ⟨nv, av, er, rfl, hR, hb3⟩; have hR := hid hR; have hb03 := hid (bl_step hb02.out hb3); obtain ⟨na, nn, nc, rfl⟩ : (∃ a n c, nv = .slice a n c) := (by rcases hans.out _ _ _ _ hR.out with ⟨_, e1, _⟩ | ⟨_, all, n, _, ⟨a, c, e1, _⟩, _⟩; exact ⟨_, _, _, e1⟩; exact ⟨_, _, _, e1⟩); obtain ⟨aa, an, ac, rfl⟩ : (∃ a n c, av = .slice a n c) := (by rcases hans.out _ _ _ _ hR.out with ⟨_, _, e1⟩ | ⟨_, all, n, _, _, ⟨a, c, e1, _⟩⟩; exact ⟨_, _, _, e1⟩; exact ⟨_, _, _, e1⟩))
        | (go_at_call 10; fail))
      · rcases hans.out _ _ _ _ hR.out with ⟨h3, h4, _⟩ | ⟨h3, _⟩
        · subst h3
          injection h4 with h4 h5 h6
          subst h4 h5 h6
          go_ret
          exact ⟨by simp, bl_step hb03.out (al' w3 _)⟩
        · subst h3
          rename_i hx
          first | exact absurd hx (by decide) | exact absurd (by decide) hx | (simp at hx; done) | (exfalso; simp_all)
      · exfalso
        rcases hans.out _ _ _ _ hR.out with ⟨h3, _⟩ | ⟨h3, _⟩
        · subst h3
          rename_i hx hy
          simp at hx hy
        · subst h3
          rename_i hx hy
          simp at hx hy
      · rcases hans.out _ _ _ _ hR.out with ⟨h3, _⟩ | ⟨h3, all, n, hB, hN, hAc⟩
        · subst h3
          rename_i hx
          first | exact absurd hx (by decide) | exact absurd (by decide) hx | simp at hx
        subst h3
        have hQ := hB.rgt
        have hacc := hid (fun a (h : Frm8 ts s 0 a) => frm8_acc hB h)
        clear hB GW GH GR GC GB hans hshC hR
        generalize nxtK all n = N at hN hQ hacc
        generalize accK all n = A at hAc hQ hacc
        obtain ⟨na', nc', e1, _⟩ := id hN
        injection e1 with e1 e2 e3
        subst e1 e2 e3
        obtain ⟨aa', ac', e1, _⟩ := id hAc
        injection e1 with e1 e2 e3
        subst e1 e2 e3
        have hal := hid (al' w3 (.cells #[.slice na N.length nc, .slice aa A.length ac] 25))
        have hbk := hid (heap_new w3 (.cells #[.slice na N.length nc, .slice aa A.length ac] 25))
        have hN' := hid (hN.keep hal.out)
        have hA' := hid (hAc.keep hal.out)
        have hend := hid (bl_step hb03.out hal.out)
        have hfew := hQ.few
        have hrB := hid (rgtB_of hQ)
        clear hN hAc
        generalize w3.alloc (.cells #[.slice na N.length nc, .slice aa A.length ac] 25) = W at *
        have G1 := hid (fun u (hu : Below W.heap.size W u) => rightD _ _ N A u (hN'.out.keep hu) (hA'.out.keep hu) (by omega))
        have G2 := hid (fun u (hu : Below W.heap.size W u) => acceptsD _ _ N A s u (hN'.out.keep hu) (hA'.out.keep hu) (by omega) (by omega))
        rw [hrB.out] at G1
        obtain ⟨d0, d1, -⟩ := cells2m hbk.out
        have d0 := hid d0
        have d1 := hid d1
        clear hrB hQ hN' hA'
        go_loopw [7, 8] (fun a i wr => ∃ (k : Nat) (z : Int), k ≤ L.length ∧ i = .int .i64 ((k : Int) - 1) ∧ a = .int .i64 z ∧ Hid (Frm8 ts s k z) ∧ Below W.heap.size W wr) (fun _ i _ => (intOf i + 1).toNat)
        case atStart => exact ⟨L.length, -1, Nat.le_refl _, by go_num, rfl, hid (by rw [← hLen.out]; exact frm8_end ts s), Below.refl _ _⟩
        case round =>
          obtain ⟨k, z, hk, rfl, rfl, hin, hbl⟩ := hrel
          have hW0 := hid (bl_step hend.out hbl)
          cases k with
          | zero =>
            have hz := hacc.out z hin.out
            have c0 := keep_cell hbl d0.out
            have c1 := keep_cell hbl d1.out
            rw [hz] at G2
            have hz := hid hz
            have hbl := hid hbl
            clear GF hacc hin
            go_wp2_with (first
              | (go_at_call 10; refine (G1.out wr hbl.out).mono ?_; rintro e w5 ⟨rfl, hb5⟩; have h05 := hid (bl_step hbl.out hb5); have q0 := keep_cell h05.out d0.out; have q1 := keep_cell h05.out d1.out)
              | (go_at_call 12; refine (G2.out w5 h05.out).mono ?_; rintro e w6 ⟨rfl, hb6⟩))
            go_ret
            exact ⟨by simp, bl_step hend.out (bl_step h05.out hb6)⟩
          | succ k =>
            have hkL : k < L.length := by omega
            have hkt : k < ts.length := by rw [hLen.out]; exact hkL
            obtain ⟨b, o, x, rfl, hx, G⟩ := GF.out k hkL hkt wr hW0.out
            have hy := hid (fun (h : Mat ts[k] s) => frm8_yes hkt h)
            have hn := hid (fun (h : ¬ Mat ts[k] s) => frm8_no hkt h hin.out)
            have hkz : (k : Int) < (L.length : Int) := by omega
            have hk1 : ((k + 1 : Nat) : Int) - 1 = (k : Int) := by omega
            rw [hk1]
            have G := hid G
            clear hk1
            go_wp2_with (go_at_call 20; refine G.out.mono ?_; rintro e w5 ⟨r, rfl, hr, hb5⟩; cases r)
            · have hf := hid (hn.out (fun h => by have := hr.2 h; cases this))
              go_roundw
              case rel => exact ⟨_, _, _, _, _, _, _, _, _, _, _, _, _, ⟨k, z, by omega, rfl, rfl, hf, bl_step hbl hb5⟩, rfl⟩
              case measure => simp [intOf]
            · have hf := hid (hy.out (by simpa using hr))
              go_roundw
              case rel => exact ⟨_, _, _, _, _, _, _, _, _, _, _, _, _, ⟨k, (k : Int), by omega, rfl, rfl, hf, bl_step hbl hb5⟩, rfl⟩
              case measure => simp [intOf]

end Go.Proofs.YtlpbeieljjgbaaaGreatDoor
