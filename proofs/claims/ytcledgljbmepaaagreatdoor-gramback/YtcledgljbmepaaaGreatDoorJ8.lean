/- The reader: a class; point. The reader: a cell is put down. The reader: an atom, where rows of shorter texts are read. The reader: atoms, pieces. -/
import Derived.Test.YtcledgljbmepaaaGreatDoorJ7
import Derived.Deep.AppendLies
import Derived.Deep.RegionLaw
namespace Go.Proofs.YtcledgljbmepaaaGreatDoor
open Go.RowKit

/-- how much is left to be read -/
def plcN (w : World) (rb : Nat) (n : Nat) : Nat := match w.cell? ⟨rb, 1, none⟩ with
  | some (.int _ z) => n - z.toNat
  | _ => 0
theorem At.left {w : World} {rb : Nat} {v : Value} {s q : Txt} (h : At w rb v s q) : plcN w rb s.length = q.length := by
  unfold plcN
  rw [h.place]
  obtain ⟨pre, hp, _⟩ := h
  unfold plc
  rw [hp]
  simp
theorem or_none {S : W4} (h : Fit4 S) : orB noneB S = S := (mkB_eq h fun x _ => by rw [noneB_has]; simp).symm
theorem span_fit (a b : Nat) : Fit4 (spanB a b) := mkB_fit _
theorem or_fit (S T : W4) : Fit4 (orB S T) := mkB_fit _

def SaidS (res : Option (W4 × Txt)) (w : World) (rb : Nat) (v : Value) (s : Txt) : Ending → World → Prop := fun e w' =>
  (match res with
    | some (S, q) => e = .returned (valB S) ∧ At w' rb v s q
    | none => ∃ n, e = faultE n) ∧ Kept (oneBlk rb) w w'
theorem SaidS.mk_no {res : Option (W4 × Txt)} {w w' : World} {rb : Nat} {v : Value} {s : Txt} (h : res = none) (n : Int) (hk : Kept (oneBlk rb) w w') : SaidS res w rb v s (faultE n) w' := by subst h; exact ⟨⟨n, rfl⟩, hk⟩
theorem SaidS.mk_yes {res : Option (W4 × Txt)} {w w' : World} {rb : Nat} {v : Value} {s q : Txt} {S : W4} (h : res = some (S, q)) (hat : At w' rb v s q) (hk : Kept (oneBlk rb) w w') : SaidS res w rb v s (.returned (valB S)) w' := by subst h; exact ⟨⟨rfl, hat⟩, hk⟩
/-- the class, of what its items are -/
def finC (oth : Bool) (R : Option (W4 × Txt)) : Option (W4 × Txt) := match R with
  | none => none
  | some (S, r) => if (if oth then notB S else S) = noneB then none else some (if oth then notB S else S, r)
theorem classF_fin (n : Nat) (q : Txt) : classF n q = finC (q.head? == some 94) (itemsF n true noneB (if q.head? == some 94 then q.tail else q)) := by
  unfold classF finC
  cases q.head? == some 94
  · simp only [Bool.false_eq_true, if_false]
    cases itemsF n true noneB q with
    | none => rfl
    | some x => rfl
  · simp only [if_true]
    cases itemsF n true noneB q.tail with
    | none => rfl
    | some x => rfl
set_option maxRecDepth 20000 in
theorem eqNone (a b c d : Nat) {r : Bool} (h : decide ((⟨a, b, c, d⟩ : W4) = noneB) = r) (w : World) : (Op.equalIn 10000 110 (.agg #[.int .u64 (a : Int), .int .u64 (b : Int), .int .u64 (c : Int), .int .u64 (d : Int)]) (.agg #[.int .u64 0, .int .u64 0, .int .u64 0, .int .u64 0])).run Tryz.prog w = .ok r w := by
  rw [← h]
  exact equal4 9998 a b c d 0 0 0 0 w
set_option maxRecDepth 20000 in
set_option maxHeartbeats 4000000 in
/-- a class behind its first item -/
theorem classC {w : World} {rb : Nat} {v : Value} {s q : Txt} (h : At w rb v s q) (hs : s.length ≤ 200) (p : Int) :
    Calls Tryz.prog 162 #[.pointer (some ⟨rb, 0, none⟩), .int .i64 p] w (SaidS (classF (q.length + 1) q) w rb v s) := by
  have hrb : rb < w.heap.size := by obtain ⟨_, _, hb⟩ := h; exact blk_lt hb
  rw [classF_fin]
  have GI := hid (fun u q (hat : At u rb v s q) => itemC hat hs)
  have h1 := hid (h.keep (al' w (.cells #[.int .u64 0, .int .u64 0, .int .u64 0, .int .u64 0] 110)))
  have b0 : Hid (Blk (w.alloc (.cells #[.int .u64 0, .int .u64 0, .int .u64 0, .int .u64 0] 110)) w.heap.size noneB) := hid (heap_new w _)
  have k0 : Hid (Kept (oneBlk rb) w (w.alloc (.cells #[.int .u64 0, .int .u64 0, .int .u64 0, .int .u64 0] 110))) := hid (Kept.of_below (al' w _))
  have hne : ¬ oneBlk rb w.heap.size := fun e => by have : w.heap.size = rb := e; omega
  have GT : Hid (Calls Tryz.prog 133 #[.pointer (some ⟨rb, 0, none⟩), .int .u8 94] (w.alloc (.cells #[.int .u64 0, .int .u64 0, .int .u64 0, .int .u64 0] 110)) fun e w' => e = .returned (.bool (q.head? == some 94)) ∧ At w' rb v s (if q.head? == some 94 then q.tail else q) ∧ Kept (oneBlk rb) (w.alloc (.cells #[.int .u64 0, .int .u64 0, .int .u64 0, .int .u64 0] 110)) w') := hid (by
    by_cases h94 : q.head? = some 94
    · obtain ⟨q', rfl⟩ : ∃ q', q = 94 :: q' := by
        cases q with
        | nil => cases h94
        | cons c t => injection h94 with h; subst h; exact ⟨t, rfl⟩
      exact (takeYes h1.out hs).mono fun e w' hh => hh
    · have hno : (q.head? == some 94) = false := by simpa using h94
      rw [hno]
      exact (takeNo h1.out hs 94 hno).mono fun e w' hh => ⟨hh.1, h1.out.keep hh.2, Kept.of_below hh.2⟩)
  have hlen : (if q.head? == some 94 then q.tail else q).length + 1 ≤ q.length + 1 := by split <;> simp
  generalize (q.head? == some 94) = oth at GT hlen ⊢
  generalize hn0 : q.length + 1 = n0 at hlen ⊢
  generalize (if oth = true then q.tail else q) = q1 at GT hlen ⊢
  cases n0 with
  | zero => omega
  | succ n0 =>
  rw [items_item]
  simp only [Bool.not_true, Bool.false_and, Bool.false_eq_true, if_false]
  cases e1 : itemP q1 with
  | none =>
    have GI1 := hid (fun u (hat : At u rb v s q1) => (show Calls _ _ _ _ (SaidI none u rb v s) by have := GI.out u q1 hat; rwa [e1] at this))
    show Calls _ _ _ _ (SaidS none w rb v s)
    clear e1 GI h hn0
    go_enter Tryz.func162, Tryz.ntmps162
    go_wp2_with (first
      | (go_at_call 133; refine GT.out.mono ?_; rintro e w1 ⟨rfl, hat1, hk1⟩; have hat1 := hid hat1)
      | (go_at_call 164; refine (GI1.out _ hat1.out).mono ?_; rintro e w2 ⟨⟨n, he⟩, hk2⟩; subst he))
    exact ⟨rfl, ⟨_, rfl⟩, (k0.out.trans hk1).trans hk2⟩
  | some x =>
    obtain ⟨a, b, r1⟩ := x
    have hr1 := itemP_lt e1
    have GI1 := hid (fun u (hat : At u rb v s q1) => (show Calls _ _ _ _ (SaidI (some (a, b, r1)) u rb v s) by have := GI.out u q1 hat; rwa [e1] at this))
    show Calls _ _ _ _ (SaidS (finC oth (itemsF n0 false (orB noneB (spanB a b)) r1)) w rb v s)
    rw [or_none (span_fit a b)]
    obtain ⟨R, hR⟩ : ∃ R, Hid (itemsF n0 false (spanB a b) r1 = R) := ⟨_, hid rfl⟩
    rw [hR.out]
    have hR1 : Hid (itemsF (r1.length + 1) false (spanB a b) r1 = R) := hid ((items_more (Nat.le_refl _) (by omega)).trans hR.out)
    have hS1 := hid (span_fit a b)
    clear e1 h hn0 hR
    have GI2 : Hid (∀ u (hat : At u rb v s q1), Calls Tryz.prog 164 #[.pointer (some ⟨rb, 0, none⟩)] u fun e w' => (e = .returned (valB (spanB a b)) ∧ At w' rb v s r1) ∧ Kept (oneBlk rb) u w') := GI1
    clear GI1
    generalize spanB a b = S1 at GI2 hR1 hS1
    obtain ⟨x0, x1, x2, x3⟩ := S1
    have GK1 := hid (fun u q (hat : At u rb v s q) (hq : (q.head? == some 93) = false) => takeNo hat hs 93 hq)
    have GK2 := hid (fun u r (hat : At u rb v s (93 :: r)) => takeYes hat hs)
    rw [show ((93 : UInt8).toNat : Int) = 93 from rfl] at GK1 GK2
    go_enter Tryz.func162, Tryz.ntmps162
    go_wp2_with (first
      | (go_at_call 133; refine GT.out.mono ?_; rintro e w1 ⟨rfl, hat1, hk1⟩; have hat1 := hid hat1)
      | (go_at_call 164; refine (GI2.out _ hat1.out).mono ?_; rintro e w2 ⟨⟨he, hat2⟩, hk2⟩; subst he; have hat2 := hid hat2; have hsz2 : w.heap.size < w2.heap.size := Nat.lt_of_lt_of_le (by simp) (Nat.le_trans hk1.size hk2.size)))
    go_loopw [] (fun wr => ∃ S q', Fit4 S ∧ Hid (At wr rb v s q') ∧ Hid (Blk wr w2.heap.size S) ∧ Hid (Blk wr w.heap.size noneB) ∧ Kept (oneBlk rb) w wr ∧ Hid (itemsF (q'.length + 1) false S q' = R)) (fun wr => plcN wr rb s.length)
    case atStart =>
      exact ⟨⟨x0, x1, x2, x3⟩, r1, hS1.out, hid (hat2.out.keep (al' w2 _)), hid (heap_new w2 _), hid ((((b0.out.kept hk1 hne).kept hk2 hne)).keep (al' w2 _)), al_kept ((k0.out.trans hk1).trans hk2) _, hR1⟩
    case round =>
      obtain ⟨S, q', hfS, hat, bS, bN, hkw, hRq⟩ := hrel
      have hne2 : ¬ oneBlk rb w2.heap.size := fun e => by have : w2.heap.size = rb := e; omega
      have hmu := hat.out.left
      by_cases h93 : q'.head? = some 93
      · obtain ⟨r, rfl⟩ : ∃ r, q' = 93 :: r := by
          cases q' with
          | nil => cases h93
          | cons c t => injection h93 with h; subst h; exact ⟨t, rfl⟩
        have hRv : R = some (S, r) := by rw [← hRq.out, items_item]; rfl
        have GT' := hid (GK2.out wr r hat.out)
        have hRv' := hid hRv
        clear h93 hRv hRq hmu hR1 GI GI2 GK1 GK2 GT hat
        cases oth with
        | false =>
          have hfin : Hid (finC false R = if S = noneB then none else some (S, r)) := hid (by rw [hRv'.out]; rfl)
          obtain ⟨a0, a1, a2, a3⟩ := S
          by_cases hz : (⟨a0, a1, a2, a3⟩ : W4) = noneB
          · have hfin := hid (hfin.out.trans (if_pos hz))
            have hq := eqNone a0 a1 a2 a3 (decide_eq_true hz)
            clear hz
            go_wp2_with (first
              | (go_at_call 133; refine GT'.out.mono ?_; rintro e w3 ⟨rfl, hat3, hk3⟩; have b3 := hid (bS.out.kept hk3 hne2); obtain ⟨s0, s1, s2, s3, s4, s5, s6, s7⟩ := b3.out.cells))
            exact ⟨rfl, SaidS.mk_no hfin.out _ (hkw.trans hk3)⟩
          · have hfin := hid (hfin.out.trans (if_neg hz))
            have hq := eqNone a0 a1 a2 a3 (decide_eq_false hz)
            clear hz
            go_wp2_with (first
              | (go_at_call 133; refine GT'.out.mono ?_; rintro e w3 ⟨rfl, hat3, hk3⟩; have hat3 := hid hat3; have b3 := hid (bS.out.kept hk3 hne2); have c3 := hid (bN.out.kept hk3 hne); obtain ⟨s0, s1, s2, s3, s4, s5, s6, s7⟩ := b3.out.cells; obtain ⟨z0, z1, z2, z3, z4, z5, z6, z7⟩ := Blk.cells (sa := 0) (sb := 0) (sc := 0) (sd := 0) c3.out))
            refine bodyPost_ret (v := .agg #[.int .u64 a0, .int .u64 a1, .int .u64 a2, .int .u64 a3]) (by simp [results, Tryz.results162, go_sem, z0, z1, z2, z3]) rfl (SaidS.mk_yes (S := ⟨a0, a1, a2, a3⟩) hfin.out (hat3.out.put4 ⟨a0, a1, a2, a3⟩ (by omega)) (kept_put4 (hkw.trans hk3) ⟨a0, a1, a2, a3⟩ (fun h => by omega)))
        | true =>
          have hfin : Hid (finC true R = if notB S = noneB then none else some (notB S, r)) := hid (by rw [hRv'.out]; rfl)
          obtain ⟨a0, a1, a2, a3⟩ := S
          have GN := hid (fun u => notC a0 a1 a2 a3 u hfS)
          generalize notB ⟨a0, a1, a2, a3⟩ = T at GN hfin
          obtain ⟨t0, t1, t2, t3⟩ := T
          by_cases hz : (⟨t0, t1, t2, t3⟩ : W4) = noneB
          · have hfin := hid (hfin.out.trans (if_pos hz))
            have hq := eqNone t0 t1 t2 t3 (decide_eq_true hz)
            clear hz
            go_wp2_with (first
              | (go_at_call 133; refine GT'.out.mono ?_; rintro e w3 ⟨rfl, hat3, hk3⟩; have b3 := hid (bS.out.kept hk3 hne2); obtain ⟨s0, s1, s2, s3, s4, s5, s6, s7⟩ := b3.out.cells)
              | (go_at_call 126; refine (GN.out _).mono ?_; rintro e w4 ⟨rfl, hb4⟩; have b4 := hid (b3.out.keep hb4); obtain ⟨m0, m1, m2, m3, m4, m5, m6, m7⟩ := b4.out.cells))
            exact ⟨rfl, SaidS.mk_no hfin.out _ (kept_put4 (b := w2.heap.size) ((hkw.trans hk3).trans (Kept.of_below hb4)) ⟨t0, t1, t2, t3⟩ (fun h => by omega))⟩
          · have hfin := hid (hfin.out.trans (if_neg hz))
            have hq := eqNone t0 t1 t2 t3 (decide_eq_false hz)
            clear hz
            have hnn : ¬ w.heap.size = w2.heap.size := by omega
            go_wp2_with (first
              | (go_at_call 133; refine GT'.out.mono ?_; rintro e w3 ⟨rfl, hat3, hk3⟩; have hat3 := hid hat3; have b3 := hid (bS.out.kept hk3 hne2); have c3 := hid (bN.out.kept hk3 hne); obtain ⟨s0, s1, s2, s3, s4, s5, s6, s7⟩ := b3.out.cells)
              | (go_at_call 126; refine (GN.out _).mono ?_; rintro e w4 ⟨rfl, hb4⟩; have hat4 := hid (hat3.out.keep hb4); have b4 := hid (b3.out.keep hb4); have c4 := hid (c3.out.keep hb4); obtain ⟨m0, m1, m2, m3, m4, m5, m6, m7⟩ := b4.out.cells; obtain ⟨z0, z1, z2, z3, z4, z5, z6, z7⟩ := Blk.cells (sa := 0) (sb := 0) (sc := 0) (sd := 0) c4.out))
            refine bodyPost_ret (v := .agg #[.int .u64 t0, .int .u64 t1, .int .u64 t2, .int .u64 t3]) (by simp [results, Tryz.results162, go_sem, z0, z1, z2, z3]) rfl (SaidS.mk_yes (S := ⟨t0, t1, t2, t3⟩) hfin.out ((hat4.out.put4 ⟨t0, t1, t2, t3⟩ (by omega)).put4 ⟨t0, t1, t2, t3⟩ (by omega)) (kept_put4 (kept_put4 ((hkw.trans hk3).trans (Kept.of_below hb4)) ⟨t0, t1, t2, t3⟩ (fun h => by omega)) ⟨t0, t1, t2, t3⟩ (fun h => by omega)))
      · have hno : (q'.head? == some 93) = false := by simpa using h93
        have GT' := hid (GK1.out wr q' hat.out hno)
        have hit := items_item q'.length false S q'
        rw [hRq.out, hno] at hit
        simp only [Bool.and_false, Bool.false_eq_true, if_false] at hit
        cases e2 : itemP q' with
        | none =>
          rw [e2] at hit
          have GI' := hid (fun u (hat : At u rb v s q') => (show Calls _ _ _ _ (SaidI none u rb v s) by have := GI.out u q' hat; rwa [e2] at this))
          have hfin : Hid (finC oth R = none) := hid (by rw [hit]; rfl)
          clear h93 hRq hmu hR1 GI GI2 GK1 GK2 GT hit e2 hno
          obtain ⟨a0, a1, a2, a3⟩ := S
          go_wp2_with (first
            | (go_at_call 133; refine GT'.out.mono ?_; rintro e w3 ⟨rfl, hb3⟩; have hd3 : Below w3.heap.size w3 w3.drew := (Below.refl _ _).drew; have hat3 := hid ((hat.out.keep hb3).keep hd3); have b3 := hid ((bS.out.keep hb3).keep hd3); obtain ⟨s0, s1, s2, s3, s4, s5, s6, s7⟩ := b3.out.cells))
          have HI : Hid (∀ (Q : Exit → Act → World → Prop) (a : Act) (R' : Ending → World → Prop), (∀ n w4, Kept (oneBlk rb) w3.drew w4 → R' (faultE n) w4) → Calls Tryz.prog 164 #[.pointer (some ⟨rb, 0, none⟩)] w3.drew R') := hid (fun Q a R' hR' => (GI'.out _ hat3.out).mono (by rintro e w4 ⟨⟨n, he⟩, hk4⟩; subst he; exact hR' n w4 hk4))
          refine wp_region_any (by kernel_rfl) ?_
          change wpAny _ _ _ _ _ _ _ (World.drew _)
          refine wpAny_take (i := 1) (v := .pointer (some ⟨rb, 0, none⟩)) rfl (by kernel_rfl) (by kernel_rfl) (by kernel_rfl) (fun _ _ _ h => h) (Or.inl ⟨by rfl, fun w => by go_simp⟩) ?_
          refine wpAny_ready (rs := [0, 2]) (by kernel_rfl) (by simp) ?_
          refine AllReady.cons rfl (fun K hK => ?_) (AllReady.cons rfl (fun K hK => ?_) AllReady.nil)
          · go_simp
            refine hK _ _ ?_
            clear hK K
            refine wpAny_ready (rs := [2]) (by kernel_rfl) (by simp) ?_
            refine AllReady.cons rfl (fun K hK => ?_) AllReady.nil
            go_simp
            refine HI.out (fun _ _ _ => True) ⟨#[], []⟩ _ ?_
            intro n w4 hk4
            exact ⟨rfl, SaidS.mk_no hfin.out _ (((hkw.trans (Kept.of_below hb3)).trans (Kept.of_below hd3)).trans hk4)⟩
          · go_simp
            refine HI.out (fun _ _ _ => True) ⟨#[], []⟩ _ ?_
            intro n w4 hk4
            exact ⟨rfl, SaidS.mk_no hfin.out _ (((hkw.trans (Kept.of_below hb3)).trans (Kept.of_below hd3)).trans hk4)⟩
        | some y =>
          obtain ⟨a', b', r2⟩ := y
          rw [e2] at hit
          have hlt2 := itemP_lt e2
          have hit2 : R = itemsF q'.length false (orB S (spanB a' b')) r2 := hit
          have hR2 : Hid (itemsF (r2.length + 1) false (orB S (spanB a' b')) r2 = R) := hid ((items_more (Nat.le_refl _) (by omega)).trans hit2.symm)
          have GI' : Hid (∀ u (hat : At u rb v s q'), Calls Tryz.prog 164 #[.pointer (some ⟨rb, 0, none⟩)] u fun e w' => (e = .returned (valB (spanB a' b')) ∧ At w' rb v s r2) ∧ Kept (oneBlk rb) u w') := hid (fun u hat => by have := GI.out u q' hat; rw [e2] at this; exact this)
          obtain ⟨a0, a1, a2, a3⟩ := S
          have hfp := span_fit a' b'
          have hf2 := hid (or_fit ⟨a0, a1, a2, a3⟩ (spanB a' b'))
          generalize spanB a' b' = P at GI' hR2 hfp hf2
          obtain ⟨p0, p1, p2, p3⟩ := P
          have GO := hid (fun u => orC a0 a1 a2 a3 p0 p1 p2 p3 u hfS hfp)
          generalize orB ⟨a0, a1, a2, a3⟩ ⟨p0, p1, p2, p3⟩ = T at GO hR2 hf2
          obtain ⟨t0, t1, t2, t3⟩ := T
          have hmu := hid hmu
          have hlt2 := hid hlt2
          clear h93 hRq hR1 GI GI2 GK1 GK2 GT hit hit2 e2 hno
          go_wp2_with (first
            | (go_at_call 133; refine GT'.out.mono ?_; rintro e w3 ⟨rfl, hb3⟩; have hd3 : Below w3.heap.size w3 w3.drew := (Below.refl _ _).drew; have hat3 := hid ((hat.out.keep hb3).keep hd3); have b3 := hid ((bS.out.keep hb3).keep hd3); have c3 := hid ((bN.out.keep hb3).keep hd3); obtain ⟨s0, s1, s2, s3, s4, s5, s6, s7⟩ := b3.out.cells))
          go_region_with (first
            | (go_at_call 164; refine (GI'.out _ hat3.out).mono ?_; rintro e w4 ⟨⟨he, hat4⟩, hk4⟩; subst he; have hat4 := hid hat4; have b4 := hid (b3.out.kept hk4 hne2); have c4 := hid (c3.out.kept hk4 hne); obtain ⟨m0, m1, m2, m3, m4, m5, m6, m7⟩ := b4.out.cells)
            | (go_at_call 165; refine (GO.out _).mono ?_; rintro e w5 ⟨rfl, hb5⟩; have hat5 := hid (hat4.out.keep hb5); have b5 := hid (b4.out.keep hb5); have c5 := hid (c4.out.keep hb5); obtain ⟨n0', n1, n2, n3, n4, n5, n6, n7⟩ := b5.out.cells)
            | fail)
          all_goals
            go_wp2
            have hat6 := hat5.out.put4 (b := w2.heap.size) ⟨t0, t1, t2, t3⟩ (by omega)
            have hm6 := hat6.left
            refine ⟨⟨⟨t0, t1, t2, t3⟩, r2, hf2.out, hid hat6, hid (b5.out.put (S' := ⟨t0, t1, t2, t3⟩)), hid (c5.out.other (S' := ⟨t0, t1, t2, t3⟩) (by omega)), kept_put4 ((((hkw.trans (Kept.of_below hb3)).trans (Kept.of_below hd3)).trans hk4).trans (Kept.of_below hb5)) ⟨t0, t1, t2, t3⟩ (fun h => by omega), hR2⟩, ?_⟩
            have hl2 := hlt2.out
            have hm := hmu.out
            show plcN _ rb s.length < plcN wr rb s.length
            rw [hm]
            exact Nat.lt_of_le_of_lt (Nat.le_of_eq hm6) hl2

set_option maxRecDepth 20000 in
set_option maxHeartbeats 1000000 in
theorem pointC (w : World) : Calls Tryz.prog 113 #[] w fun e w' => e = .returned (valB (notB (spanB 10 10))) ∧ Below w.heap.size w w' := by
  have G1 := hid (fun u => oneC 10 u (by omega))
  have hf := span_fit 10 10
  generalize spanB 10 10 = P at G1 hf ⊢
  obtain ⟨p0, p1, p2, p3⟩ := P
  have G2 := hid (fun u => notC p0 p1 p2 p3 u hf)
  generalize notB ⟨p0, p1, p2, p3⟩ = T at G2 ⊢
  obtain ⟨t0, t1, t2, t3⟩ := T
  have b0 : Hid (Blk (w.alloc (.cells #[.int .u64 0, .int .u64 0, .int .u64 0, .int .u64 0] 110)) w.heap.size noneB) := hid (heap_new w _)
  go_enter Tryz.func113, Tryz.ntmps113
  go_wp2_with (first
    | (go_at_call 127; refine (G1.out _).mono ?_; rintro e w1 ⟨rfl, hb1⟩)
    | (go_at_call 126; refine (G2.out _).mono ?_; rintro e w2 ⟨rfl, hb2⟩; have b2 := hid ((b0.out.keep hb1).keep hb2); obtain ⟨z0, z1, z2, z3, z4, z5, z6, z7⟩ := Blk.cells (sa := 0) (sb := 0) (sc := 0) (sd := 0) b2.out))
  refine bodyPost_ret (v := .agg #[.int .u64 t0, .int .u64 t1, .int .u64 t2, .int .u64 t3]) (by simp [results, Tryz.results113, go_sem, z0, z1, z2, z3]) rfl ⟨rfl, bl_put (bl_step (bl_step (al' w _) hb1) hb2) ⟨t0, t1, t2, t3⟩ (Nat.le_refl _)⟩

end Go.Proofs.YtcledgljbmepaaaGreatDoor
namespace Go.Proofs.YtcledgljbmepaaaGreatDoor
open Go.RowKit

/-- the reader with the cells that it put down -/
def Rd (w : World) (rb : Nat) (s q : Txt) (l : List Cel) : Prop := ∃ v, At w rb v s q ∧ OwnC w rb v l ∧ ∀ c ∈ l, FitC c
theorem own_ne {w : World} {B rb k : Nat} {v : Value} {l : List Cel} {cs : Array Value} (h : OwnC w B v l) (hb : w.heap[rb]? = some (.cells cs 166 (0, 0))) (hk : v.ownBlock = some k) : k ≠ rb := by
  rcases h.2 with ⟨rfl, _⟩ | ⟨g, cap, cur, rfl, _, h3, _⟩
  · cases hk
  · simp [Value.ownBlock] at hk
    subst hk
    intro e
    subst e
    rw [hb] at h3
    injection h3 with h3
    injection h3 with _ h3
    exact absurd h3 (by decide)
theorem Rd.keep {w w' : World} {rb : Nat} {s q : Txt} {l : List Cel} (h : Rd w rb s q l) (hb : Below w.heap.size w w') : Rd w' rb s q l := by
  obtain ⟨v, h1, h2, h3⟩ := h
  exact ⟨v, h1.keep hb, own_below h2 hb, h3⟩
theorem At.blk {w : World} {rb : Nat} {v : Value} {s q : Txt} (h : At w rb v s q) : ∃ k : Nat, w.heap[rb]? = some (.cells #[.string (strT s), .int .i64 (k : Int), v] 166 (0, 0)) := by
  obtain ⟨pre, _, hb⟩ := h
  exact ⟨_, hb⟩
theorem own_keptR {w w' : World} {rb : Nat} {v : Value} {s q : Txt} {l : List Cel} (h : At w rb v s q) (ho : OwnC w rb v l) (hk : Kept (oneBlk rb) w w') : OwnC w' rb v l := by
  obtain ⟨k, hb⟩ := h.blk
  exact own_keep ho fun j hj => hk.block j (ho.lt j hj).2 (own_ne ho hb hj)
theorem kept_low {w w' : World} {rb : Nat} (hrb : rb < w.heap.size) (hk : Kept (oneBlk rb) w w') : Below rb w w' := hk.below (fun k e => Nat.le_of_eq (show rb = k from (show k = rb from e).symm)) (Nat.le_of_lt hrb)
/-- a cell's value -/
abbrev cel5 (op : Int) (S : W4) : Array Value := #[.int .i64 op, .int .u64 (S.a : Int), .int .u64 (S.b : Int), .int .u64 (S.c : Int), .int .u64 (S.d : Int)]
theorem cel5_one (op : Int) (S : W4) : ∀ u ∈ (cel5 op S).toList, u.oneCell' = true := fun u hu => by
  simp at hu
  rcases hu with rfl | rfl | rfl | rfl | rfl <;> rfl

/-- behind the append and the store -/
theorem put_end {w u w' : World} {rb g cap k : Nat} {v : Value} {s q : Txt} {l : List Cel} {op : Int} {S : W4} (hAt : At w rb v s q) (hO : OwnC w rb v l) (hF : ∀ c ∈ l, FitC c) (hc : FitC ⟨op, S⟩) (hu : Below w.heap.size w u)
    (hO' : w'.ownsRow rb 112 5 (.slice (some ⟨g, 0, none⟩) (l.length + 1) cap) (l.length + 1) (flatC l ++ (cel5 op S).toList)) (hg : u.grownBy w' v.ownBlock) (hat : v.ownBlock = some g ∨ g = k) (hk : w.heap.size ≤ k) :
    Rd (w'.setCell ⟨rb, 2, none⟩ (.slice (some ⟨g, 0, none⟩) (l.length + 1) cap)) rb s q (l ++ [⟨op, S⟩]) ∧ Below rb w (w'.setCell ⟨rb, 2, none⟩ (.slice (some ⟨g, 0, none⟩) (l.length + 1) cap)) := by
  obtain ⟨j, hb⟩ := hAt.blk
  have hrb := blk_lt hb
  have hgr : g ≠ rb := by
    rcases hat with h | h
    · exact own_ne hO hb h
    · omega
  have hbw : ∀ cs, w.heap[rb]? = some cs → w'.heap[rb]? = some cs := fun cs h => (hg.block rb (Nat.lt_of_lt_of_le hrb hu.size) (fun e => own_ne hO hb e.symm rfl)).trans ((hu.block rb hrb).trans h)
  refine ⟨⟨.slice (some ⟨g, 0, none⟩) (l.length + 1) cap, ?_, ?_, ?_⟩, ?_⟩
  · obtain ⟨pre, hp, hb'⟩ := hAt
    refine ⟨pre, hp, ?_⟩
    rw [heap_setCell (o := 2) (hbw _ hb')]
    simp
  · unfold OwnC
    have e : flatC (l ++ [⟨op, S⟩]) = flatC l ++ (cel5 op S).toList := by rw [flatC_app]; rfl
    rw [e, List.length_append]
    refine own_keep hO' fun i hi => ?_
    simp [Value.ownBlock] at hi
    subst hi
    exact Below.heap_setCell _ _ _ _ hgr
  · intro c hcm
    rcases List.mem_append.1 hcm with h | h
    · exact hF c h
    · simp at h; subst h; exact hc
  · refine bl_set ?_ rb 2 _ (Nat.le_refl _)
    have h1 : Below rb w u := hu.mono (Nat.le_of_lt hrb)
    exact h1.grown hg (Nat.le_trans (Nat.le_of_lt hrb) hu.size) (fun i hi => (hO.lt i hi).1)

set_option maxRecDepth 20000 in
set_option maxHeartbeats 2000000 in
theorem putC {w : World} {rb : Nat} {s q : Txt} {l : List Cel} (h : Rd w rb s q l) (hl : l.length ≤ 100000) (op : Int) (h0 : -9223372036854775808 ≤ op) (h1 : op ≤ 9223372036854775807) :
    Calls Tryz.prog 134 #[.pointer (some ⟨rb, 0, none⟩), .int .i64 op] w fun e w' => e = .returned (.tuple #[]) ∧ Rd w' rb s q (l ++ [⟨op, noneB⟩]) ∧ Below rb w w' := by
  obtain ⟨v, hAt, hO, hF⟩ := h
  obtain ⟨i0, hi, hz0, hz1, hz2⟩ := info_parts Tryz.info112
  obtain ⟨k, hb⟩ := hAt.blk
  have hrb := blk_lt hb
  obtain ⟨c0, c1, c2, c3, c4⟩ := rd3 hb
  have hO1 := hid (own_below hO (al' w (.cells (cel5 op noneB) 112)))
  have hN := hid (World.news_of_block (heap_new w (.cells (cel5 op noneB) 112)))
  have hal := hid (al' w (.cells (cel5 op noneB) 112))
  have hgo : Hid (∀ g cap w', w'.ownsRow rb 112 5 (.slice (some ⟨g, 0, none⟩) (l.length + 1) cap) (l.length + 1) (flatC l ++ (cel5 op noneB).toList) → (w.alloc (.cells (cel5 op noneB) 112)).grownBy w' v.ownBlock → (v.ownBlock = some g ∨ g = w.heap.size + 1) →
      (w'.cell? ⟨rb, 2, none⟩ = some v ∧ w'.frozen? ⟨rb, 2, none⟩ = false) ∧ Rd (w'.setCell ⟨rb, 2, none⟩ (.slice (some ⟨g, 0, none⟩) (l.length + 1) cap)) rb s q (l ++ [⟨op, noneB⟩]) ∧ Below rb w (w'.setCell ⟨rb, 2, none⟩ (.slice (some ⟨g, 0, none⟩) (l.length + 1) cap))) := hid (fun g cap w' h1' h2' h3' => by
    refine ⟨?_, put_end hAt hO hF ⟨h0, h1, noneB_fit⟩ (al' w _) h1' h2' h3' (Nat.le_succ _)⟩
    have hbw : w'.heap[rb]? = _ := (h2'.block rb (by simp; omega) (fun e => own_ne hO hb e.symm rfl)).trans ((hal.out.block rb hrb).trans hb)
    exact ⟨blk_cell hbw rfl, blk_frozen hbw 2⟩)
  clear hAt hO hF hb
  go_enter Tryz.func134, Tryz.ntmps134
  go_wp2_with (at_builtin; refine wpList_append_lies _ (by rfl) _ _ _ (by rfl) rb 112 i0 (.agg #[.int .i64 0, .int .u64 0, .int .u64 0, .int .u64 0, .int .u64 0]) 5 40 Tryz.underlying66 hi hz0 hz1 hz2 rfl (by decide) v l.length (flatC l) (by rfl) hO1.out ⟨w.heap.size, 0, none⟩ 1 1 (cel5 op noneB).toList (by rfl) (by rfl) hN.out (cel5_one op noneB) (by omega) (by (unfold maxLen); omega) (by omega) (by simp; omega) (w.heap.size + 1) (by simp) ?_; intro g cap w1 hown1 hgrow hat hlt; obtain ⟨⟨d2, d4⟩, hend⟩ := hgo.out g cap w1 hown1 hgrow hat; have hend := hid hend)
  first | go_end0 | skip
  exact ⟨rfl, hend.out⟩

set_option maxRecDepth 20000 in
set_option maxHeartbeats 2000000 in
theorem putSetC {w : World} {rb : Nat} {s q : Txt} {l : List Cel} (h : Rd w rb s q l) (hl : l.length ≤ 100000) (a0 a1 a2 a3 : Nat) (hS : Fit4 ⟨a0, a1, a2, a3⟩) :
    Calls Tryz.prog 161 #[.pointer (some ⟨rb, 0, none⟩), valB ⟨a0, a1, a2, a3⟩] w fun e w' => e = .returned (.tuple #[]) ∧ Rd w' rb s q (l ++ [⟨1, ⟨a0, a1, a2, a3⟩⟩]) ∧ Below rb w w' := by
  obtain ⟨v, hAt, hO, hF⟩ := h
  obtain ⟨i0, hi, hz0, hz1, hz2⟩ := info_parts Tryz.info112
  obtain ⟨k, hb⟩ := hAt.blk
  have hrb := blk_lt hb
  have hD1 := hid (al' w (.cells #[.int .u64 (a0 : Int), .int .u64 (a1 : Int), .int .u64 (a2 : Int), .int .u64 (a3 : Int)] 110)).drew
  have hO1 := hid (fun u (hu : Below w.heap.size w u) => own_below hO hu)
  have hN := hid (World.news_of_block (w := ((w.alloc (.cells #[.int .u64 (a0 : Int), .int .u64 (a1 : Int), .int .u64 (a2 : Int), .int .u64 (a3 : Int)] 110)).drew.alloc (.cells (cel5 1 ⟨a0, a1, a2, a3⟩) 112))) (two_blocks w (.cells #[.int .u64 (a0 : Int), .int .u64 (a1 : Int), .int .u64 (a2 : Int), .int .u64 (a3 : Int)] 110) (.cells (cel5 1 ⟨a0, a1, a2, a3⟩) 112)).2)
  have hgo : Hid (∀ u k g cap w', Below w.heap.size w u → w.heap.size ≤ k → w'.ownsRow rb 112 5 (.slice (some ⟨g, 0, none⟩) (l.length + 1) cap) (l.length + 1) (flatC l ++ (cel5 1 ⟨a0, a1, a2, a3⟩).toList) → u.grownBy w' v.ownBlock → (v.ownBlock = some g ∨ g = k) →
      (w'.cell? ⟨rb, 2, none⟩ = some v ∧ w'.frozen? ⟨rb, 2, none⟩ = false) ∧ Rd (w'.setCell ⟨rb, 2, none⟩ (.slice (some ⟨g, 0, none⟩) (l.length + 1) cap)) rb s q (l ++ [⟨1, ⟨a0, a1, a2, a3⟩⟩]) ∧ Below rb w (w'.setCell ⟨rb, 2, none⟩ (.slice (some ⟨g, 0, none⟩) (l.length + 1) cap))) := hid (fun u k g cap w' hu hk h1' h2' h3' => by
    refine ⟨?_, put_end hAt hO hF ⟨show (-9223372036854775808 : Int) ≤ 1 by decide, show (1 : Int) ≤ 9223372036854775807 by decide, hS⟩ hu h1' h2' h3' hk⟩
    have hbw : w'.heap[rb]? = _ := (h2'.block rb (Nat.lt_of_lt_of_le hrb hu.size) (fun e => own_ne hO hb e.symm rfl)).trans ((hu.block rb hrb).trans hb)
    exact ⟨blk_cell hbw rfl, blk_frozen hbw 2⟩)
  have hb1 := (hD1.out.block rb hrb).trans hb
  obtain ⟨c0, c1, c2, c3, c4⟩ := rd3 hb1
  have bS : Blk (w.alloc (.cells #[.int .u64 (a0 : Int), .int .u64 (a1 : Int), .int .u64 (a2 : Int), .int .u64 (a3 : Int)] 110)).drew w.heap.size ⟨a0, a1, a2, a3⟩ := heap_new w _
  obtain ⟨s0, s1, s2, s3, s4, s5, s6, s7⟩ := bS.cells
  obtain ⟨e0, e1, e2, e3, e4⟩ := rd3 hb
  clear hAt hO hF hb hb1 bS
  go_enter Tryz.func161, Tryz.ntmps161
  go_wp2_with fail
  go_region_law ((first
    | (refine step_append_lies _ (by rfl) (.tmp 8) (.tmp 11) 66 (by rfl) rb 112 i0 (.agg #[.int .i64 0, .int .u64 0, .int .u64 0, .int .u64 0, .int .u64 0]) 5 40 Tryz.underlying66 hi hz0 hz1 hz2 rfl (by decide) v l.length (flatC l) (by rfl) (hO1.out _ (bl_step hD1.out (al' _ _))) ⟨w.heap.size + 1, 0, none⟩ 1 1 (cel5 1 ⟨a0, a1, a2, a3⟩).toList (by rfl) (by rfl) hN.out (cel5_one _ _) (by omega) (by (unfold maxLen); omega) (by omega) (by simp; omega) (w.heap.size + 2) (by simp) ?_; intro g cap w1 hown1 hgrow hat hlt; obtain ⟨⟨d2, d4⟩, hend⟩ := hgo.out _ _ g cap w1 (bl_step hD1.out (al' _ _)) (by omega) hown1 hgrow hat; have hend := hid hend)
    | fail))
  all_goals
    first | go_end0 | skip
    exact ⟨rfl, hend.out⟩

end Go.Proofs.YtcledgljbmepaaaGreatDoor
namespace Go.Proofs.YtcledgljbmepaaaGreatDoor
open Go.RowKit

theorem Rd.lt {w : World} {rb : Nat} {s q : Txt} {l : List Cel} (h : Rd w rb s q l) : rb < w.heap.size := by
  obtain ⟨v, h, _, _⟩ := h
  obtain ⟨k, hb⟩ := h.blk
  exact blk_lt hb
theorem Rd.suf {w : World} {rb : Nat} {s q : Txt} {l : List Cel} (h : Rd w rb s q l) : ∃ pre, s = pre ++ q := by
  obtain ⟨v, ⟨pre, hp, _⟩, _, _⟩ := h
  exact ⟨pre, hp⟩
theorem Rd.place {w : World} {rb : Nat} {s q : Txt} {l : List Cel} (h : Rd w rb s q l) : w.cell? ⟨rb, 1, none⟩ = some (.int .i64 (plc s q)) := by
  obtain ⟨v, h, _, _⟩ := h
  exact h.place
theorem Rd.left {w : World} {rb : Nat} {s q : Txt} {l : List Cel} (h : Rd w rb s q l) : plcN w rb s.length = q.length := by
  obtain ⟨v, h, _, _⟩ := h
  exact h.left
theorem low {w w' : World} {rb : Nat} (hrb : rb < w.heap.size) (hb : Below w.heap.size w w') : Below rb w w' := hb.mono (Nat.le_of_lt hrb)
set_option maxRecDepth 20000 in
theorem takeN {w : World} {rb : Nat} {s q : Txt} {l : List Cel} (h : Rd w rb s q l) (hs : s.length ≤ 200) (c : UInt8) (hc : (q.head? == some c) = false) :
    Calls Tryz.prog 133 #[.pointer (some ⟨rb, 0, none⟩), .int .u8 (c.toNat : Int)] w fun e w' => e = .returned (.bool false) ∧ Rd w' rb s q l ∧ Below rb w w' := by
  have hlt := h.lt
  have h' := h
  obtain ⟨v, h1, h2, h3⟩ := h
  exact (takeNo h1 hs c hc).mono fun e w' hh => ⟨hh.1, h'.keep hh.2, low hlt hh.2⟩
set_option maxRecDepth 20000 in
theorem takeY {w : World} {rb : Nat} {s r : Txt} {c : UInt8} {l : List Cel} (h : Rd w rb s (c :: r) l) (hs : s.length ≤ 200) :
    Calls Tryz.prog 133 #[.pointer (some ⟨rb, 0, none⟩), .int .u8 (c.toNat : Int)] w fun e w' => e = .returned (.bool true) ∧ Rd w' rb s r l ∧ Below rb w w' := by
  have hlt := h.lt
  obtain ⟨v, h1, h2, h3⟩ := h
  exact (takeYes h1 hs).mono fun e w' hh => ⟨hh.1, ⟨v, hh.2.1, own_keptR h1 h2 hh.2.2, h3⟩, kept_low hlt hh.2.2⟩

/-- what is read: its cells behind those that were there; or a fault -/
def Red (res : Option (Rx × Txt)) (w : World) (rb : Nat) (s : Txt) (l : List Cel) (M : Nat) : Ending → World → Prop := fun e w' =>
  (match res with
    | some (t, q) => e = .returned (.tuple #[]) ∧ Rd w' rb s q (l ++ post t) ∧ (l ++ post t).length + 1 + 2 * q.length ≤ M
    | none => ∃ n, e = faultE n ∧ (s = [40, 97] → n = 2)) ∧ Below rb w w'
theorem Red.yes {t : Rx} {q : Txt} {w w' : World} {rb : Nat} {s : Txt} {l : List Cel} {M : Nat} {e : Ending} (h : Red (some (t, q)) w rb s l M e w') : e = .returned (.tuple #[]) ∧ Rd w' rb s q (l ++ post t) ∧ (l ++ post t).length + 1 + 2 * q.length ≤ M ∧ Below rb w w' := ⟨h.1.1, h.1.2.1, h.1.2.2, h.2⟩
set_option maxRecDepth 20000 in
theorem Red.no {w w' : World} {rb : Nat} {s : Txt} {l : List Cel} {M : Nat} {e : Ending} (h : Red none w rb s l M e w') : (∃ n, e = faultE n ∧ (s = [40, 97] → n = 2)) ∧ Below rb w w' := h
/-- rows of texts shorter than n are read -/
def RowsOK (n : Nat) : Prop := ∀ (w : World) (rb : Nat) (s q : Txt) (l : List Cel) (M : Nat), Rd w rb s q l → s.length ≤ 200 → q.length < n → l.length + 2 * q.length ≤ M → M ≤ 1000 →
  Calls Tryz.prog 117 #[.pointer (some ⟨rb, 0, none⟩)] w (Red (rowsP q) w rb s l M)
theorem suf2 {pre q : Txt} (h : ([40, 97] : Txt) = pre ++ q) : q = [40, 97] ∨ q = [97] ∨ q = [] := by
  match pre, h with
  | [], h => exact Or.inl h.symm
  | [a], h => injection h with _ h; exact Or.inr (Or.inl h.symm)
  | [a, b], h => injection h with _ h; injection h with _ h; exact Or.inr (Or.inr h.symm)
  | a :: b :: c :: r, h => injection h with _ h; injection h with _ h; cases h

/-- behind a parenthesis -/
def groupP (r : Txt) : Option (Rx × Txt) :=
  if r.head? == some 41 then some (.eps, r.tail) else
  match rowsP r with
  | some (t, q) => if q.head? == some 41 then some (t, q.tail) else none
  | none => none
theorem head_is {q : Txt} {c : UInt8} (h : q.head? = some c) : ∃ r, q = c :: r := by
  cases q with
  | nil => cases h
  | cons d t => injection h with h; subst h; exact ⟨t, rfl⟩

set_option maxRecDepth 20000 in
set_option maxHeartbeats 2000000 in
theorem groupC {n : Nat} (H : RowsOK n) {w : World} {rb : Nat} {s r : Txt} {l : List Cel} {M : Nat} (h : Rd w rb s r l) (hs : s.length ≤ 200) (hn : r.length < n) (hM : l.length + 2 * r.length + 2 ≤ M) (hM1 : M ≤ 1000) (hfst : s = [40, 97] → r = [97]) :
    Calls Tryz.prog 160 #[.pointer (some ⟨rb, 0, none⟩)] w (Red (groupP r) w rb s l M) := by
  by_cases h41 : r.head? = some 41
  · obtain ⟨r', rfl⟩ := head_is h41
    have G1 := hid (takeY h hs)
    rw [show ((41 : UInt8).toNat : Int) = 41 from rfl] at G1
    have G2 := hid (fun u (hu : Rd u rb s r' l) => putC hu (by simp at hM; omega) 2 (by decide) (by decide))
    rw [show groupP (41 :: r') = some (.eps, r') from rfl]
    clear h h41
    go_enter Tryz.func160, Tryz.ntmps160
    go_wp2_with (first
      | (go_at_call 133; refine G1.out.mono ?_; rintro e w1 ⟨rfl, hr1, hb1⟩; have hr1 := hid hr1)
      | (go_at_call 134; refine (G2.out _ hr1.out).mono ?_; rintro e w2 ⟨rfl, hr2, hb2⟩; have hr2 := hid hr2))
    first | go_end0 | refine bodyPost_ret (results_none rfl _ _ _) rfl ?_
    refine ⟨⟨rfl, hr2.out, ?_⟩, hb1.trans hb2⟩
    simp at hM ⊢
    simp [post]
    omega
  · have hno : (r.head? == some 41) = false := by simpa using h41
    have G1 := hid (takeN h hs 41 hno)
    rw [show ((41 : UInt8).toNat : Int) = 41 from rfl] at G1
    have G2 := hid (fun u (hu : Rd u rb s r l) => H u rb s r l (M - 2) hu hs hn (by omega) (by omega))
    have eg : groupP r = match rowsP r with
      | some (t, q) => if q.head? == some 41 then some (t, q.tail) else none
      | none => none := by unfold groupP; rw [hno]; rfl
    rw [eg]
    cases e1 : rowsP r with
    | none =>
      rw [e1] at G2
      show Calls _ _ _ _ (Red none w rb s l M)
      clear h h41 hno eg e1
      go_enter Tryz.func160, Tryz.ntmps160
      go_wp2_with (first
        | (go_at_call 133; refine G1.out.mono ?_; rintro e w1 ⟨rfl, hr1, hb1⟩; have hr1 := hid hr1)
        | (go_at_call 117; refine (G2.out _ hr1.out).mono ?_; intro e w2 hw2; obtain ⟨⟨n2, he2, hn2⟩, hb2⟩ := hw2.no; subst he2))
      exact ⟨rfl, ⟨_, rfl, hn2⟩, hb1.trans hb2⟩
    | some x =>
      obtain ⟨t, q⟩ := x
      rw [e1] at G2
      show Calls _ _ _ _ (Red (if q.head? == some 41 then some (t, q.tail) else none) w rb s l M)
      by_cases h2 : q.head? = some 41
      · obtain ⟨q', rfl⟩ := head_is h2
        have G3 := hid (fun u (hu : Rd u rb s (41 :: q') (l ++ post t)) => takeY hu hs)
        rw [show ((41 : UInt8).toNat : Int) = 41 from rfl] at G3
        show Calls _ _ _ _ (Red (some (t, q')) w rb s l M)
        clear h h41 hno eg e1 h2
        go_enter Tryz.func160, Tryz.ntmps160
        go_wp2_with (first
          | (go_at_call 133; refine (G3.out _ hr2.out).mono ?_; rintro e w3 ⟨rfl, hr3, hb3⟩; have hr3 := hid hr3)
          | (go_at_call 133; refine G1.out.mono ?_; rintro e w1 ⟨rfl, hr1, hb1⟩; have hr1 := hid hr1)
          | (go_at_call 117; refine (G2.out _ hr1.out).mono ?_; intro e w2 hw2; obtain ⟨he2, hr2, hm2, hb2⟩ := hw2.yes; subst he2; have hr2 := hid hr2; have hm2 := hid hm2))
        first | go_end0 | refine bodyPost_ret (results_none rfl _ _ _) rfl ?_
        refine ⟨⟨rfl, hr3.out, ?_⟩, (hb1.trans hb2).trans hb3⟩
        have := hm2.out
        simp at this ⊢
        omega
      · have hno2 : (q.head? == some 41) = false := by simpa using h2
        have G3 := hid (fun u (hu : Rd u rb s q (l ++ post t)) => takeN hu hs 41 hno2)
        rw [show ((41 : UInt8).toNat : Int) = 41 from rfl] at G3
        rw [hno2]
        have hpl : s = [40, 97] → plc s q = 2 := fun he => by
          have := hfst he
          subst this
          rw [show rowsP [97] = some (.set (spanB 97 97), []) from rfl] at e1
          injection e1 with e1
          injection e1 with _ e1
          subst e1
          subst he
          rfl
        show Calls _ _ _ _ (Red none w rb s l M)
        clear h h41 hno eg e1 h2
        have HP := hid (fun u (hu : Rd u rb s q (l ++ post t)) => hu.place)
        generalize plc s q = p at HP hpl
        go_enter Tryz.func160, Tryz.ntmps160
        go_wp2_with (first
          | (go_at_call 133; refine (G3.out _ hr2.out).mono ?_; rintro e w3 ⟨rfl, hr3, hb3⟩; have hp3 := HP.out _ hr3)
          | (go_at_call 133; refine G1.out.mono ?_; rintro e w1 ⟨rfl, hr1, hb1⟩; have hr1 := hid hr1)
          | (go_at_call 117; refine (G2.out _ hr1.out).mono ?_; intro e w2 hw2; obtain ⟨he2, hr2, hm2, hb2⟩ := hw2.yes; subst he2; have hr2 := hid hr2; have hm2 := hid hm2))
        exact ⟨rfl, ⟨_, rfl, hpl⟩, (hb1.trans hb2).trans hb3⟩

end Go.Proofs.YtcledgljbmepaaaGreatDoor
namespace Go.Proofs.YtcledgljbmepaaaGreatDoor
open Go.RowKit

theorem read_fit : ∀ (n : Nat) (first : Bool) (acc : W4) (s : Txt) (S : W4) (q : Txt), Fit4 acc → itemsF n first acc s = some (S, q) → Fit4 S
  | 0, _, _, _, _, _, _, h => by simp [itemsF] at h
  | n + 1, first, acc, s, S, q, hf, h => by
    rw [items_item] at h
    split at h
    · injection h with h; injection h with h _; subst h; exact hf
    split at h
    · cases h
    · exact read_fit n false _ _ S q (or_fit _ _) h
theorem readC_fit {n : Nat} {q r : Txt} {S : W4} (h : classF n q = some (S, r)) : Fit4 S := by
  rw [classF_fin] at h
  generalize (q.head? == some 94) = oth at h
  cases e : itemsF n true noneB (if oth = true then q.tail else q) with
  | none => rw [e] at h; cases h
  | some x =>
    obtain ⟨S', r'⟩ := x
    have hf := read_fit _ _ _ _ _ _ noneB_fit e
    have hT : Fit4 (if oth = true then notB S' else S') := by
      split
      · exact not_fit _
      · exact hf
    rw [e] at h
    simp only [finC] at h
    generalize (if oth = true then notB S' else S') = T at h hT
    by_cases hz : T = noneB
    · rw [if_pos hz] at h; cases h
    · rw [if_neg hz] at h; injection h with h; injection h with h _; subst h; exact hT
set_option maxRecDepth 20000 in
theorem toldR {w : World} {rb : Nat} {s q : Txt} {l : List Cel} (h : Rd w rb s q l) (hs : s.length ≤ 200) :
    Calls Tryz.prog 163 #[.pointer (some ⟨rb, 0, none⟩), .string atomS] w fun e w' => (match signF leftA q with | some (b, r) => e = .returned (.int .u8 (b : Int)) ∧ Rd w' rb s r l | none => e = faultE (plc s q)) ∧ Below rb w w' := by
  have hlt := h.lt
  obtain ⟨v, h1, h2, h3⟩ := h
  refine (toldC h1 hs atomS leftA tells_atom).mono fun e w' hh => ?_
  obtain ⟨hh1, hk⟩ := hh
  refine ⟨?_, kept_low hlt hk⟩
  cases e1 : signF leftA q with
  | none => rw [e1] at hh1; exact hh1
  | some x => rw [e1] at hh1; exact ⟨hh1.1, v, hh1.2, own_keptR h1 h2 hk, h3⟩
set_option maxRecDepth 20000 in
theorem classR {w : World} {rb : Nat} {s q : Txt} {l : List Cel} (h : Rd w rb s q l) (hs : s.length ≤ 200) (p : Int) :
    Calls Tryz.prog 162 #[.pointer (some ⟨rb, 0, none⟩), .int .i64 p] w fun e w' => (match classF (q.length + 1) q with | some (S, r) => e = .returned (valB S) ∧ Rd w' rb s r l | none => ∃ n, e = faultE n) ∧ Below rb w w' := by
  have hlt := h.lt
  obtain ⟨v, h1, h2, h3⟩ := h
  refine (classC h1 hs p).mono fun e w' hh => ?_
  obtain ⟨hh1, hk⟩ := hh
  refine ⟨?_, kept_low hlt hk⟩
  cases e1 : classF (q.length + 1) q with
  | none => rw [e1] at hh1; exact hh1
  | some x => rw [e1] at hh1; exact ⟨hh1.1, v, hh1.2, own_keptR h1 h2 hk, h3⟩

set_option maxRecDepth 20000 in
set_option maxHeartbeats 4000000 in
theorem atomC {n : Nat} (H : RowsOK n) {w : World} {rb : Nat} {s q : Txt} {l : List Cel} {M : Nat} (h : Rd w rb s q l) (hs : s.length ≤ 200) (hn : q.length ≤ n) (hM : l.length + 2 * q.length ≤ M) (hM1 : M ≤ 1000) :
    Calls Tryz.prog 152 #[.pointer (some ⟨rb, 0, none⟩)] w (Red (atomP q) w rb s l M) := by
  have hpl := h.place
  obtain ⟨pre, hpre⟩ := h.suf
  have hlt := h.lt
  by_cases c1 : q.head? = some 40
  · obtain ⟨r, rfl⟩ := head_is c1
    have G1 := hid (takeY h hs)
    rw [show ((40 : UInt8).toNat : Int) = 40 from rfl] at G1
    have hfst : s = [40, 97] → r = [97] := fun he => by
      rcases suf2 (he ▸ hpre) with h' | h' | h'
      · injection h' with _ h'
      · injection h' with h' _; exact absurd h' (by decide)
      · cases h'
    have G2 := hid (fun u (hu : Rd u rb s r l) => groupC H hu hs (by simp at hn; omega) (M := M) (by simp at hM; omega) hM1 hfst)
    rw [show atomP (40 :: r) = groupP r by rw [atomP_eq, if_pos rfl]; rfl]
    clear h c1 hfst hpre
    generalize plc s (40 :: r) = p at hpl
    cases e1 : groupP r with
    | none =>
      rw [e1] at G2
      clear e1
      go_enter Tryz.func152, Tryz.ntmps152
      go_wp2_with (first
        | (go_at_call 133; refine G1.out.mono ?_; rintro e w1 ⟨rfl, hr1, hb1⟩; have hr1 := hid hr1)
        | (go_at_call 160; refine (G2.out _ hr1.out).mono ?_; intro e w2 hw2; obtain ⟨⟨n2, he2, hn2⟩, hb2⟩ := hw2.no; subst he2))
      exact ⟨rfl, ⟨_, rfl, hn2⟩, hb1.trans hb2⟩
    | some x =>
      obtain ⟨t, q'⟩ := x
      rw [e1] at G2
      clear e1
      go_enter Tryz.func152, Tryz.ntmps152
      go_wp2_with (first
        | (go_at_call 133; refine G1.out.mono ?_; rintro e w1 ⟨rfl, hr1, hb1⟩; have hr1 := hid hr1)
        | (go_at_call 160; refine (G2.out _ hr1.out).mono ?_; intro e w2 hw2; obtain ⟨he2, hr2, hm2, hb2⟩ := hw2.yes; subst he2; have hr2 := hid hr2; have hm2 := hid hm2))
      first | go_end0 | refine bodyPost_ret (results_none rfl _ _ _) rfl ?_
      exact ⟨⟨rfl, hr2.out, hm2.out⟩, hb1.trans hb2⟩
  have n1 : (q.head? == some 40) = false := by simpa using c1
  have N1 := hid (fun u (hu : Rd u rb s q l) => takeN hu hs 40 n1)
  rw [show ((40 : UInt8).toNat : Int) = 40 from rfl] at N1
  by_cases c2 : q.head? = some 91
  · obtain ⟨r, rfl⟩ := head_is c2
    have hno : s = [40, 97] → False := fun he => by
      rcases suf2 (he ▸ hpre) with h' | h' | h'
      · injection h' with h' _; exact absurd h' (by decide)
      · injection h' with h' _; exact absurd h' (by decide)
      · cases h'
    have G1 := hid (fun u (hu : Rd u rb s (91 :: r) l) => takeY hu hs)
    rw [show ((91 : UInt8).toNat : Int) = 91 from rfl] at G1
    have ea : atomP (91 :: r) = match classF (r.length + 1) r with
      | some (S, q) => some (.set S, q)
      | none => none := by rw [atomP_eq, if_neg (by decide), if_neg (by decide), if_pos rfl]; rfl
    rw [ea]
    generalize plc s (91 :: r) = p at hpl
    have G2 := hid (fun u (hu : Rd u rb s r l) => classR hu hs p)
    have h0 := hid h
    clear h c1 c2 n1 hpre ea
    cases e1 : classF (r.length + 1) r with
    | none =>
      rw [e1] at G2
      clear e1
      show Calls _ _ _ _ (Red none w rb s l M)
      go_enter Tryz.func152, Tryz.ntmps152
      go_wp2_with (first
        | (go_at_call_of 133 (Value.int .u8 40); refine (N1.out _ h0.out).mono ?_; rintro e w1 ⟨rfl, hr1, hb1⟩; have hr1 := hid hr1)
        | (go_at_call_of 133 (Value.int .u8 91); refine (G1.out _ hr1.out).mono ?_; rintro e w2 ⟨rfl, hr2, hb2⟩; have hr2 := hid hr2)
        | (go_at_call 162; refine (G2.out _ hr2.out).mono ?_; rintro e w3 ⟨⟨n3, he3⟩, hb3⟩; subst he3))
      exact ⟨rfl, ⟨_, rfl, fun he => (hno he).elim⟩, (hb1.trans hb2).trans hb3⟩
    | some x =>
      obtain ⟨⟨a0, a1, a2, a3⟩, q'⟩ := x
      have hf := readC_fit e1
      have hq' := class_le e1
      rw [e1] at G2
      have G3 := hid (fun u (hu : Rd u rb s q' l) => putSetC hu (by omega) a0 a1 a2 a3 hf)
      clear e1
      show Calls _ _ _ _ (Red (some (.set ⟨a0, a1, a2, a3⟩, q')) w rb s l M)
      go_enter Tryz.func152, Tryz.ntmps152
      go_wp2_with (first
        | (go_at_call_of 133 (Value.int .u8 40); refine (N1.out _ h0.out).mono ?_; rintro e w1 ⟨rfl, hr1, hb1⟩; have hr1 := hid hr1)
        | (go_at_call_of 133 (Value.int .u8 91); refine (G1.out _ hr1.out).mono ?_; rintro e w2 ⟨rfl, hr2, hb2⟩; have hr2 := hid hr2)
        | (go_at_call 162; refine (G2.out _ hr2.out).mono ?_; rintro e w3 ⟨⟨he3, hr3⟩, hb3⟩; subst he3; have hr3 := hid hr3)
        | (go_at_call 161; refine (G3.out _ hr3.out).mono ?_; rintro e w4 ⟨rfl, hr4, hb4⟩; have hr4 := hid hr4))
      first | go_end0 | refine bodyPost_ret (results_none rfl _ _ _) rfl ?_
      refine ⟨⟨rfl, hr4.out, ?_⟩, ((hb1.trans hb2).trans hb3).trans hb4⟩
      simp at hM ⊢
      simp [post]
      omega
  have n2 : (q.head? == some 91) = false := by simpa using c2
  have N2 := hid (fun u (hu : Rd u rb s q l) => takeN hu hs 91 n2)
  rw [show ((91 : UInt8).toNat : Int) = 91 from rfl] at N2
  by_cases c3 : q.head? = some 46
  · obtain ⟨r, rfl⟩ := head_is c3
    have G1 := hid (fun u (hu : Rd u rb s (46 :: r) l) => takeY hu hs)
    rw [show ((46 : UInt8).toNat : Int) = 46 from rfl] at G1
    have ea : atomP (46 :: r) = some (.set (notB (spanB 10 10)), r) := by rw [atomP_eq, if_neg (by decide), if_pos rfl]
    rw [ea]
    generalize plc s (46 :: r) = p at hpl
    have G2 := hid pointC
    have hf := not_fit (spanB 10 10)
    generalize notB (spanB 10 10) = T at G2 hf ⊢
    obtain ⟨a0, a1, a2, a3⟩ := T
    have G3 := hid (fun u (hu : Rd u rb s r l) => putSetC hu (by omega) a0 a1 a2 a3 hf)
    have h0 := hid h
    clear h c1 c2 c3 n1 n2 hpre ea
    go_enter Tryz.func152, Tryz.ntmps152
    go_wp2_with (first
      | (go_at_call_of 133 (Value.int .u8 40); refine (N1.out _ h0.out).mono ?_; rintro e w1 ⟨rfl, hr1, hb1⟩; have hr1 := hid hr1)
      | (go_at_call_of 133 (Value.int .u8 91); refine (N2.out _ hr1.out).mono ?_; rintro e w2 ⟨rfl, hr2, hb2⟩; have hr2 := hid hr2)
      | (go_at_call_of 133 (Value.int .u8 46); refine (G1.out _ hr2.out).mono ?_; rintro e w3 ⟨rfl, hr3, hb3⟩; have hlt3 := hr3.lt; have hr3 := hid hr3)
      | (go_at_call 113; refine (G2.out _).mono ?_; rintro e w4 ⟨rfl, hb4⟩; have hr4 := hid (hr3.out.keep hb4); have hb4' := low hlt3 hb4)
      | (go_at_call 161; refine (G3.out _ hr4.out).mono ?_; rintro e w5 ⟨rfl, hr5, hb5⟩; have hr5 := hid hr5))
    first | go_end0 | refine bodyPost_ret (results_none rfl _ _ _) rfl ?_
    refine ⟨⟨rfl, hr5.out, ?_⟩, (((hb1.trans hb2).trans hb3).trans hb4').trans hb5⟩
    simp at hM ⊢
    simp [post]
    omega
  have n3 : (q.head? == some 46) = false := by simpa using c3
  have N3 := hid (fun u (hu : Rd u rb s q l) => takeN hu hs 46 n3)
  rw [show ((46 : UInt8).toNat : Int) = 46 from rfl] at N3
  have ea : atomP q = match signF leftA q with
      | some (b, r) => some (.set (spanB b b), r)
      | none => none := by
    cases q with
    | nil => rfl
    | cons c r =>
      rw [atomP_eq, if_neg (fun e => c1 (by rw [e]; rfl)), if_neg (fun e => c3 (by rw [e]; rfl)), if_neg (fun e => c2 (by rw [e]; rfl))]
      rfl
  rw [ea]
  have G2 := hid (fun u (hu : Rd u rb s q l) => toldR hu hs)
  have h0 := hid h
  cases e1 : signF leftA q with
  | none =>
    rw [e1] at G2
    have hp2 : s = [40, 97] → plc s q = 2 := fun he => by
      rcases suf2 (he ▸ hpre) with h' | h' | h'
      · subst h'; exact absurd rfl c1
      · subst h'; cases e1
      · subst h'; subst he; rfl
    clear e1 h c1 c2 c3 n1 n2 n3 hpre ea
    generalize plc s q = p at hpl G2 hp2
    show Calls _ _ _ _ (Red none w rb s l M)
    go_enter Tryz.func152, Tryz.ntmps152
    go_wp2_with (first
      | (go_at_call_of 133 (Value.int .u8 40); refine (N1.out _ h0.out).mono ?_; rintro e w1 ⟨rfl, hr1, hb1⟩; have hr1 := hid hr1)
      | (go_at_call_of 133 (Value.int .u8 91); refine (N2.out _ hr1.out).mono ?_; rintro e w2 ⟨rfl, hr2, hb2⟩; have hr2 := hid hr2)
      | (go_at_call_of 133 (Value.int .u8 46); refine (N3.out _ hr2.out).mono ?_; rintro e w3 ⟨rfl, hr3, hb3⟩; have hr3 := hid hr3)
      | (go_at_call 163; refine (G2.out _ hr3.out).mono ?_; rintro e w4 ⟨he4, hb4⟩; subst he4))
    exact ⟨rfl, ⟨_, rfl, hp2⟩, ((hb1.trans hb2).trans hb3).trans hb4⟩
  | some x =>
    obtain ⟨b, r⟩ := x
    have hb := sign_byte e1
    have hr := signF_lt e1
    rw [e1] at G2
    have G3 := hid (fun u => oneC b u hb)
    have hf := span_fit b b
    show Calls _ _ _ _ (Red (some (.set (spanB b b), r)) w rb s l M)
    generalize spanB b b = T at G3 hf ⊢
    obtain ⟨a0, a1, a2, a3⟩ := T
    have G4 := hid (fun u (hu : Rd u rb s r l) => putSetC hu (by omega) a0 a1 a2 a3 hf)
    clear e1 h c1 c2 c3 n1 n2 n3 hpre ea
    generalize plc s q = p at hpl
    go_enter Tryz.func152, Tryz.ntmps152
    go_wp2_with (first
      | (go_at_call_of 133 (Value.int .u8 40); refine (N1.out _ h0.out).mono ?_; rintro e w1 ⟨rfl, hr1, hb1⟩; have hr1 := hid hr1)
      | (go_at_call_of 133 (Value.int .u8 91); refine (N2.out _ hr1.out).mono ?_; rintro e w2 ⟨rfl, hr2, hb2⟩; have hr2 := hid hr2)
      | (go_at_call_of 133 (Value.int .u8 46); refine (N3.out _ hr2.out).mono ?_; rintro e w3 ⟨rfl, hr3, hb3⟩; have hr3 := hid hr3)
      | (go_at_call 163; refine (G2.out _ hr3.out).mono ?_; rintro e w4 ⟨⟨he4, hr4⟩, hb4⟩; subst he4; have hlt4 := hr4.lt; have hr4 := hid hr4)
      | (go_at_call 127; refine (G3.out _).mono ?_; rintro e w5 ⟨rfl, hb5⟩; have hr5 := hid (hr4.out.keep hb5); have hb5' := low hlt4 hb5)
      | (go_at_call 161; refine (G4.out _ hr5.out).mono ?_; rintro e w6 ⟨rfl, hr6, hb6⟩; have hr6 := hid hr6))
    first | go_end0 | refine bodyPost_ret (results_none rfl _ _ _) rfl ?_
    refine ⟨⟨rfl, hr6.out, ?_⟩, ((((hb1.trans hb2).trans hb3).trans hb4).trans hb5').trans hb6⟩
    simp [post]
    omega

end Go.Proofs.YtcledgljbmepaaaGreatDoor
