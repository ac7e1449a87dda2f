/- The contract of topiaryref05.Parts. -/
import Derived.Test.YtpkndedppfdekaaDoorAlike
import Derived.Laws.OwnMore
namespace Go.Proofs.YtpkndedppfdekaaDoor
open Go.RowKit

theorem Tryd.info25 : (Tryd.prog.info? 25).map (fun i => (i.zero, i.size, i.bytes)) = some (some (.agg #[.int .u64 0, .int .u64 0, .int .u64 0, .int .u64 0]), 4, 32) := by kernel_rfl

def flatB (l : List W4) : List Value := l.flatMap fun S => [.int .u64 (S.a : Int), .int .u64 (S.b : Int), .int .u64 (S.c : Int), .int .u64 (S.d : Int)]
theorem flatB_app (l m : List W4) : flatB (l ++ m) = flatB l ++ flatB m := by unfold flatB; rw [List.flatMap_append]
theorem flatB_len (l : List W4) : (flatB l).length = l.length * 4 := by
  induction l with
  | nil => rfl
  | cons S t ih => unfold flatB at *; rw [List.flatMap_cons, List.length_append, ih]; simp only [List.length_cons, List.length_nil]; omega
/-- a slice of the call's own that holds sets -/
abbrev OwnS (w : World) (B : Nat) (v : Value) (l : List W4) : Prop := w.ownsRow B 25 4 v l.length (flatB l)
theorem own_keep {w w' : World} {base size n : Nat} {e : TypeId} {v : Value} {xs : List Value} (h : w.ownsRow base e size v n xs) (hb : ∀ k, v.ownBlock = some k → w'.heap[k]? = w.heap[k]?) : w'.ownsRow base e size v n xs := by
  refine ⟨h.1, h.2.imp id ?_⟩
  rintro ⟨g, cap, cur, rfl, h2, h3, h4⟩
  exact ⟨g, cap, cur, rfl, h2, (hb g rfl).trans h3, h4⟩
theorem own_below {w w' : World} {base size n : Nat} {e : TypeId} {v : Value} {xs : List Value} (h : w.ownsRow base e size v n xs) (hb : Below w.heap.size w w') : w'.ownsRow base e size v n xs :=
  own_keep h fun k hk => hb.block k (h.lt k hk).2
theorem own_base {w : World} {B B' n size : Nat} {e : TypeId} {v : Value} {xs : List Value} (h : w.ownsRow B e size v n xs) (hB : B' ≤ B) : w.ownsRow B' e size v n xs := by
  refine ⟨h.1, h.2.imp id ?_⟩
  rintro ⟨g, cap, cur, rfl, h2, h3⟩
  exact ⟨g, cap, cur, rfl, Nat.le_trans hB h2, h3⟩
theorem own_put4 {w : World} {base size n b : Nat} {e : TypeId} {v : Value} {xs : List Value} (S : W4) (h : w.ownsRow base e size v n xs) (hne : ∀ k, v.ownBlock = some k → k ≠ b) : (put4 w b S).ownsRow base e size v n xs :=
  own_keep h fun k hk => by
    unfold put4
    rw [Below.heap_setCell _ _ _ _ (hne k hk), Below.heap_setCell _ _ _ _ (hne k hk), Below.heap_setCell _ _ _ _ (hne k hk), Below.heap_setCell _ _ _ _ (hne k hk)]

theorem addN_low {S : W4} {p : Nat → Bool} : ∀ {k : Nat}, (∀ x, x < k → p x = false) → addN S p k = S
  | 0, _ => addN_zero S p
  | k + 1, h => by rw [addN_no (h k (by omega)), addN_low fun x hx => h x (by omega)]
def doneB (l : List W4) (k : Nat) : W4 := mkB fun x => (repN l k).any fun r => al l r x
theorem doneB_fit (l : List W4) (k : Nat) : Fit4 (doneB l k) := mkB_fit _
theorem doneB_has (l : List W4) (k x : Nat) (hx : x < 256) : hasB (doneB l k) x = (repN l k).any fun r => al l r x := by unfold doneB; rw [mkB_has _ x hx]
theorem doneB_zero (l : List W4) : doneB l 0 = noneB := by
  unfold doneB
  exact (mkB_eq noneB_fit fun x _ => by rw [noneB_has, repN_zero]; rfl).symm
theorem doneB_old {l : List W4} {k : Nat} (h : (repN l k).any (fun r => al l r k) = true) : doneB l (k + 1) = doneB l k := by unfold doneB; rw [repN_old h]
theorem doneB_new {l : List W4} {k : Nat} (h : (repN l k).any (fun r => al l r k) = false) : addN (doneB l k) (fun x => decide (k ≤ x) && al l k x) 256 = doneB l (k + 1) := by
  rw [addN_all (doneB_fit l k)]
  unfold doneB
  refine mkB_congr fun x hx => ?_
  rw [mkB_has _ x hx, repN_new h, List.any_append]
  congr 1
  by_cases hxk : k ≤ x
  · simp [hxk]
  · have := cls_low h (show x < k by omega)
    simp [this]
theorem cls_new {l : List W4} {k : Nat} (h : (repN l k).any (fun r => al l r k) = false) : addN noneB (fun x => decide (k ≤ x) && al l k x) 256 = clsB l k := by rw [addN_none, cls_eq h]

theorem news4 (w : World) (ca cb cc cd : Nat) : ∀ j u, [Value.int .u64 (ca : Int), .int .u64 (cb : Int), .int .u64 (cc : Int), .int .u64 (cd : Int)][j]? = some u → (w.alloc (.cells #[.int .u64 (ca : Int), .int .u64 (cb : Int), .int .u64 (cc : Int), .int .u64 (cd : Int)] 25)).cell? ((⟨w.heap.size, 0, none⟩ : Addr).add j) = some u := fun j u hj => by
  match j, hj with
  | 0, hj => simp at hj; subst hj; simp [Addr.add]
  | 1, hj => simp at hj; subst hj; simp [Addr.add]
  | 2, hj => simp at hj; subst hj; simp [Addr.add]
  | 3, hj => simp at hj; subst hj; simp [Addr.add]

set_option maxHeartbeats 4000000 in
theorem refParts (v : Value) (l : List W4) (w : World) (hl : l.length ≤ 1000000) (hA : Sets w v l) :
    Calls Tryd.prog 25 #[v] w fun e w' => ∃ v', e = .returned v' ∧ OwnS w' w.heap.size v' (partsB l) ∧ Below w.heap.size w w' := by
  obtain ⟨i0, hi, hz0, hz1, hz2⟩ := info_parts Tryd.info25
  have GP : Hid (∀ k Q u, k < 256 → Fit4 Q → Calls Tryd.prog 27 #[valB Q, .int .i64 ((k : Nat) : Int)] u fun e w' => e = .returned (valB (putB Q k)) ∧ Below u.heap.size u w') := fun k Q u hk hQ => putC Q k u hQ hk
  have GH : Hid (∀ k u, k < 256 → Calls Tryd.prog 23 #[valB (doneB l k), .int .i64 ((k : Nat) : Int)] u fun e w' => e = .returned (.bool ((repN l k).any fun r => al l r k)) ∧ Below u.heap.size u w') := fun k u hk => by
    have := hasC (doneB l k) k u (doneB_fit l k) hk
    rwa [doneB_has l k k hk] at this
  have GA : Hid (∀ x y u, x < 256 → y < 256 → Sets u v l → Calls Tryd.prog 33 #[v, .int .i64 ((x : Nat) : Int), .int .i64 ((y : Nat) : Int)] u fun e w' => e = .returned (.bool (al l x y)) ∧ Below u.heap.size u w') := fun x y u hx hy h => refAlike v l x y u hl hx hy h
  have hA0 := hid hA
  clear hA
  go_enter Tryd.func25, Tryd.ntmps25
  go_wp2
  go_loopw [3, 5] (fun o i wr => ∃ k : Nat, k ≤ 256 ∧ i = .int .i64 k ∧ Hid (OwnS wr (w.heap.size + 1) o ((repN l k).map (clsB l))) ∧ Hid (Blk wr w.heap.size (doneB l k)) ∧ Below w.heap.size w wr) (fun _ i _ => 256 - (intOf i).toNat)
  case atStart => exact ⟨0, Nat.zero_le _, rfl, by rw [repN_zero]; exact hid (World.ownsRow_nil _ _ _ _), by rw [doneB_zero]; exact hid (heap_new w _), al' w _⟩
  case round =>
    obtain ⟨k, hk, rfl, hO, bD0, hbl⟩ := hrel
    by_cases hlt : k < 256
    · have hltz : (k : Int) < 256 := by omega
      have GH0 := hid (GH.out k wr hlt)
      have hlen : ((repN l k).map (clsB l)).length ≤ k := by rw [List.length_map]; exact repN_len l k
      have hDf := hid (doneB_fit l k)
      cases hnd : (repN l k).any fun r => al l r k with
      | true =>
        rw [hnd] at GH0
        have hO' : Hid (OwnS wr (w.heap.size + 1) u3 ((repN l (k + 1)).map (clsB l))) := by rw [repN_old hnd]; exact hO
        have hD' := hid (doneB_old hnd)
        clear hO hnd
        generalize doneB l k = D at GH0 bD0 hDf hD'
        obtain ⟨da, db, dc, dd⟩ := D
        obtain ⟨s0, s1, s2, s3, s4, s5, s6, s7⟩ := bD0.out.cells
        go_wp2_with (go_at_call 23; refine (GH0.out).mono ?_; rintro e w1 ⟨rfl, hb1⟩)
        go_roundw
        case rel => exact ⟨k + 1, by omega, by go_num, hid (own_below hO'.out hb1), by rw [hD'.out]; exact hid (bD0.out.keep hb1), bl_step hbl hb1⟩
        case measure => simp [intOf]; omega
      | false =>
        rw [hnd] at GH0
        obtain ⟨p, hp⟩ : ∃ p : Nat → Bool, Hid (p = fun x => decide (k ≤ x) && al l k x) := ⟨_, hid rfl⟩
        have hlow : Hid (∀ x, x < k → p x = false) := hid (fun x hx => by rw [hp.out]; simp; omega)
        have hpj : Hid (∀ j, k ≤ j → al l k j = p j) := hid (fun j hj => by rw [hp.out]; simp [hj])
        have hcls : Hid (∀ j, j = 256 → addN noneB p j = clsB l k) := hid (fun j hj => by rw [hj, hp.out]; exact cls_new hnd)
        have hdn : Hid (∀ j, j = 256 → addN (doneB l k) p j = doneB l (k + 1)) := hid (fun j hj => by rw [hj, hp.out]; exact doneB_new hnd)
        have hrow : Hid ((repN l (k + 1)).map (clsB l) = (repN l k).map (clsB l) ++ [clsB l k]) := hid (by rw [repN_new hnd, List.map_append]; rfl)
        have hf1 := hid (addN_fit noneB_fit p)
        have hf2 := hid (addN_fit hDf.out p)
        generalize (repN l k).map (clsB l) = row at hO hlen hrow
        generalize doneB l k = D at GH0 bD0 hDf hdn hf2
        obtain ⟨da, db, dc, dd⟩ := D
        obtain ⟨s0, s1, s2, s3, s4, s5, s6, s7⟩ := bD0.out.cells
        clear hnd hp
        go_wp2_with (go_at_call 23; refine (GH0.out).mono ?_; rintro e w1 ⟨rfl, hb1⟩)
        have hb01 := bl_step hbl hb1
        have hs1 := hb01.size
        have bD2 := hid ((bD0.out.keep hb1).keep (al' w1 (.cells #[.int .u64 0, .int .u64 0, .int .u64 0, .int .u64 0] 25)))
        have hO2 := hid (own_below (own_below hO.out hb1) (al' w1 (.cells #[.int .u64 0, .int .u64 0, .int .u64 0, .int .u64 0] 25)))
        have hvb : Hid (∀ m, u3.ownBlock = some m → m < w1.heap.size ∧ w.heap.size + 1 ≤ m) := hid (fun m hm => ⟨((own_below hO.out hb1).lt m hm).2, (hO.out.lt m hm).1⟩)
        have hBs : w.heap.size < w1.heap.size := (bD0.out.keep hb1).lt
        go_loopw [7] (fun i wq => ∃ j : Nat, k ≤ j ∧ j ≤ 256 ∧ i = .int .i64 j ∧ Hid (Blk wq w1.heap.size (addN noneB p j)) ∧ Hid (Blk wq w.heap.size (addN ⟨da, db, dc, dd⟩ p j)) ∧ Hid (OwnS wq (w.heap.size + 1) u3 row) ∧ Below w.heap.size w wq) (fun i _ => 256 - (intOf i).toNat)
        case atStart => exact ⟨k, Nat.le_refl _, hk, rfl, by rw [addN_low hlow.out]; exact hid (heap_new w1 _), by rw [addN_low hlow.out]; exact bD2, hO2, bl_step hb01 (al' w1 _)⟩
        case round =>
          obtain ⟨j, hkj, hj, rfl, bQ0, bE0, hQ0, hbq⟩ := hrel
          by_cases hjt : j < 256
          · have hjz : (j : Int) < 256 := by omega
            have GA0 := hid (GA.out k j wr hlt hjt (hA0.out.keep hbq))
            rw [hpj.out j hkj] at GA0
            have hy1 := hid (@addN_yes noneB p j)
            have hn1 := hid (@addN_no noneB p j)
            have hy2 := hid (@addN_yes ⟨da, db, dc, dd⟩ p j)
            have hn2 := hid (@addN_no ⟨da, db, dc, dd⟩ p j)
            have hg1 := hid (hf1.out j)
            have hg2 := hid (hf2.out j)
            generalize addN noneB p j = Q at bQ0 hy1 hn1 hg1
            generalize addN ⟨da, db, dc, dd⟩ p j = E at bE0 hy2 hn2 hg2
            obtain ⟨a, b, c, d⟩ := Q
            obtain ⟨ea, eb, ec, ed⟩ := E
            have GP1 := hid (fun u => GP.out j ⟨a, b, c, d⟩ u hjt hg1.out)
            have GP2 := hid (fun u => GP.out j ⟨ea, eb, ec, ed⟩ u hjt hg2.out)
            cases hr : p j with
            | false =>
              rw [hr] at GA0
              have hS1 := hid (hn1.out hr)
              have hS2 := hid (hn2.out hr)
              clear hy1 hn1 hy2 hn2 hr
              go_wp2_with (go_at_call 33; refine (GA0.out).mono ?_; rintro e w2 ⟨rfl, hb2⟩)
              go_roundw
              case rel => exact ⟨j + 1, by omega, by omega, by go_num, by rw [hS1.out]; exact hid (bQ0.out.keep hb2), by rw [hS2.out]; exact hid (bE0.out.keep hb2), hid (own_below hQ0.out hb2), bl_step hbq hb2⟩
              case measure => simp [intOf]; omega
            | true =>
              rw [hr] at GA0
              have hS1 := hid (hy1.out hr)
              have hS2 := hid (hy2.out hr)
              clear hy1 hn1 hy2 hn2 hr
              generalize putB ⟨a, b, c, d⟩ j = Q' at hS1 GP1
              generalize putB ⟨ea, eb, ec, ed⟩ j = E' at hS2 GP2
              obtain ⟨a', b', c', d'⟩ := Q'
              obtain ⟨ea', eb', ec', ed'⟩ := E'
              go_wp2_with (first
                | (go_at_call 33; refine (GA0.out).mono ?_; rintro e w2 ⟨rfl, hb2⟩; have bQ2 := hid (bQ0.out.keep hb2); have bE2 := hid (bE0.out.keep hb2); have hO2' := hid (own_below hQ0.out hb2); obtain ⟨o0, o1, o2, o3, o4, o5, o6, o7⟩ := bQ2.out.cells)
                | (go_at_call 27; refine (GP2.out (put4 w3 w1.heap.size ⟨a', b', c', d'⟩)).mono ?_; rintro e w5 ⟨rfl, hb5⟩; have bQ5 := hid (bQ4.out.keep hb5); have bE5 := hid (bE4.out.keep hb5); have hO5 := hid (own_below hO4.out hb5); obtain ⟨z0, z1, z2, z3, z4, z5, z6, z7⟩ := bE5.out.cells)
                | (go_at_call 27; refine (GP1.out _).mono ?_; rintro e w3 ⟨rfl, hb3⟩; have bQ3 := hid (bQ2.out.keep hb3); have bE3 := hid (bE2.out.keep hb3); have hO3 := hid (own_below hO2'.out hb3); obtain ⟨u0, u1, u2, u3, u4, u5, u6, u7⟩ := bQ3.out.cells; have bQ4 := hid (bQ3.out.put (S' := ⟨a', b', c', d'⟩)); have bE4 := hid (bE3.out.other (b := w1.heap.size) (S' := ⟨a', b', c', d'⟩) (by omega)); have hO4 := hid (own_put4 ⟨a', b', c', d'⟩ hO3.out (fun m hm => Nat.ne_of_lt (hvb.out m hm).1)); have hcE := bE4.out.cells; simp only [put4] at hcE; obtain ⟨y0, y1, y2, y3, y4, y5, y6, y7⟩ := hcE))
              go_roundw
              case rel => exact ⟨j + 1, by omega, by omega, by go_num, by rw [hS1.out]; exact hid (bQ5.out.other (b := w.heap.size) (S' := ⟨ea', eb', ec', ed'⟩) (by omega)), by rw [hS2.out]; exact hid (bE5.out.put (S' := ⟨ea', eb', ec', ed'⟩)), hid (own_put4 ⟨ea', eb', ec', ed'⟩ hO5.out (fun m hm => by have := (hvb.out m hm).2; omega)), bl_put (bl_step (bl_put (bl_step (bl_step hbq hb2) hb3) ⟨a', b', c', d'⟩ (by omega)) hb5) ⟨ea', eb', ec', ed'⟩ (Nat.le_refl _)⟩
              case measure => simp [intOf]; omega
          · have hjz : ¬ (j : Int) < 256 := by omega
            rw [hcls.out j (by omega)] at bQ0
            rw [hdn.out j (by omega)] at bE0
            have hsq := hbq.size
            generalize clsB l k = C at bQ0 hrow
            obtain ⟨ca, cb, cc, cd⟩ := C
            obtain ⟨o0, o1, o2, o3, o4, o5, o6, o7⟩ := bQ0.out.cells
            go_wp2_with (at_builtin; refine wpList_append_own _ rfl _ _ 36 rfl (w.heap.size + 1) 25 i0 (.agg #[.int .u64 0, .int .u64 0, .int .u64 0, .int .u64 0]) 4 32 Tryd.underlying36 hi hz0 hz1 hz2 rfl (by decide) _ _ _ rfl (hQ0.out.alloc _) ⟨wr.heap.size, 0, none⟩ 1 1 [.int .u64 ca, .int .u64 cb, .int .u64 cc, .int .u64 cd] rfl rfl (news4 wr ca cb cc cd) (by intro u hu; simp at hu; rcases hu with rfl | rfl | rfl | rfl <;> rfl) (by unfold maxLen; omega) (by omega) (by have := bE0.out.lt; simp; omega) ?_; intro v' w2 hO9 hg9 _)
            go_wp2
            go_roundw
            case rel =>
              refine ⟨k + 1, by omega, by go_num, hid ?_, hid (((hg9.block w.heap.size (by have := bE0.out.lt; simp; omega) (fun e => by have := (hvb.out _ e.symm).2; omega))).trans (bE0.out.keep (al' _ _))), (hbq.alloc hsq _).grown hg9 (by simp; omega) (fun m hm => by have := (hvb.out m hm).2; omega)⟩
              rw [hrow.out]
              unfold OwnS
              rw [flatB_app, List.length_append]
              exact hO9
            case measure => simp [intOf]; omega
    · have hltz : ¬ (k : Int) < 256 := by omega
      have hO' : Hid (OwnS wr (w.heap.size + 1) u3 (partsB l)) := by
        have := hO.out
        rw [show k = 256 by omega] at this
        exact hid this
      go_wp2
      go_ret
      exact ⟨_, rfl, own_base hO'.out (by omega), hbl⟩

end Go.Proofs.YtpkndedppfdekaaDoor
