/- The reader: a class; point. The reference: told, where it is a class (toldAll). -/
import Derived.Test.YtjiljfmejgiabaaDoorJ20
import Derived.Test.YtjiljfmejgiabaaDoorJ13
namespace Go.Proofs.YtjiljfmejgiabaaDoor
open Go.RowKit

/-- how much is left to be read -/
def plcN (w : World) (rb : Nat) (n : Nat) : Nat := match w.cell? ⟨rb, 1, none⟩ with
  | some (.int _ z) => n - z.toNat
  | _ => 0
theorem At.left {w : World} {rb : Nat} {v : Value} {s q : Txt} (h : At w rb v s q) : plcN w rb s.length = q.length := by
  unfold plcN
  rw [h.place]
  obtain ⟨pre, hp, _⟩ := h
  unfold plc
  rw [hp]
  simp
theorem or_none {S : W4} (h : Fit4 S) : orB noneB S = S := (mkB_eq h fun x _ => by rw [noneB_has]; simp).symm
theorem span_fit (a b : Nat) : Fit4 (spanB a b) := mkB_fit _
theorem or_fit (S T : W4) : Fit4 (orB S T) := mkB_fit _

def SaidS (res : Option (W4 × Txt)) (w : World) (rb : Nat) (v : Value) (s : Txt) : Ending → World → Prop := fun e w' =>
  (match res with
    | some (S, q) => e = .returned (valB S) ∧ At w' rb v s q
    | none => ∃ n, e = faultE n) ∧ Kept (oneBlk rb) w w'
theorem SaidS.mk_no {res : Option (W4 × Txt)} {w w' : World} {rb : Nat} {v : Value} {s : Txt} (h : res = none) (n : Int) (hk : Kept (oneBlk rb) w w') : SaidS res w rb v s (faultE n) w' := by subst h; exact ⟨⟨n, rfl⟩, hk⟩
theorem SaidS.mk_yes {res : Option (W4 × Txt)} {w w' : World} {rb : Nat} {v : Value} {s q : Txt} {S : W4} (h : res = some (S, q)) (hat : At w' rb v s q) (hk : Kept (oneBlk rb) w w') : SaidS res w rb v s (.returned (valB S)) w' := by subst h; exact ⟨⟨rfl, hat⟩, hk⟩
/-- the class, of what its items are -/
def finC (oth : Bool) (R : Option (W4 × Txt)) : Option (W4 × Txt) := match R with
  | none => none
  | some (S, r) => if (if oth then notB S else S) = noneB then none else some (if oth then notB S else S, r)
theorem classF_fin (n : Nat) (q : Txt) : classF n q = finC (q.head? == some 94) (itemsF n true noneB (if q.head? == some 94 then q.tail else q)) := by
  unfold classF finC
  cases q.head? == some 94
  · simp only [Bool.false_eq_true, if_false]
    cases itemsF n true noneB q with
    | none => rfl
    | some x => rfl
  · simp only [if_true]
    cases itemsF n true noneB q.tail with
    | none => rfl
    | some x => rfl
theorem eqNone (a b c d : Nat) {r : Bool} (h : decide ((⟨a, b, c, d⟩ : W4) = noneB) = r) (w : World) : (Op.equalIn 10000 44 (.agg #[.int .u64 (a : Int), .int .u64 (b : Int), .int .u64 (c : Int), .int .u64 (d : Int)]) (.agg #[.int .u64 0, .int .u64 0, .int .u64 0, .int .u64 0])).run Tryd.prog w = .ok r w := by
  rw [← h]
  exact equal4 9998 a b c d 0 0 0 0 w
set_option maxHeartbeats 4000000 in
/-- a class behind its first item -/
theorem classC {w : World} {rb : Nat} {v : Value} {s q : Txt} (h : At w rb v s q) (hs : s.length ≤ 200) (p : Int) :
    Calls Tryd.prog 64 #[.pointer (some ⟨rb, 0, none⟩), .int .i64 p] w (SaidS (classF (q.length + 1) q) w rb v s) := by
  have hrb : rb < w.heap.size := by obtain ⟨_, _, hb⟩ := h; exact blk_lt hb
  rw [classF_fin]
  have GI := hid (fun u q (hat : At u rb v s q) => itemC hat hs)
  have h1 := hid (h.keep (al' w (.cells #[.int .u64 0, .int .u64 0, .int .u64 0, .int .u64 0] 44)))
  have b0 : Hid (Blk (w.alloc (.cells #[.int .u64 0, .int .u64 0, .int .u64 0, .int .u64 0] 44)) w.heap.size noneB) := hid (heap_new w _)
  have k0 : Hid (Kept (oneBlk rb) w (w.alloc (.cells #[.int .u64 0, .int .u64 0, .int .u64 0, .int .u64 0] 44))) := hid (Kept.of_below (al' w _))
  have hne : ¬ oneBlk rb w.heap.size := fun e => by have : w.heap.size = rb := e; omega
  have GT : Hid (Calls Tryd.prog 41 #[.pointer (some ⟨rb, 0, none⟩), .int .u8 94] (w.alloc (.cells #[.int .u64 0, .int .u64 0, .int .u64 0, .int .u64 0] 44)) fun e w' => e = .returned (.bool (q.head? == some 94)) ∧ At w' rb v s (if q.head? == some 94 then q.tail else q) ∧ Kept (oneBlk rb) (w.alloc (.cells #[.int .u64 0, .int .u64 0, .int .u64 0, .int .u64 0] 44)) w') := hid (by
    by_cases h94 : q.head? = some 94
    · obtain ⟨q', rfl⟩ : ∃ q', q = 94 :: q' := by
        cases q with
        | nil => cases h94
        | cons c t => injection h94 with h; subst h; exact ⟨t, rfl⟩
      exact (takeYes h1.out hs).mono fun e w' hh => hh
    · have hno : (q.head? == some 94) = false := by simpa using h94
      rw [hno]
      exact (takeNo h1.out hs 94 hno).mono fun e w' hh => ⟨hh.1, h1.out.keep hh.2, Kept.of_below hh.2⟩)
  have hlen : (if q.head? == some 94 then q.tail else q).length + 1 ≤ q.length + 1 := by split <;> simp
  generalize (q.head? == some 94) = oth at GT hlen ⊢
  generalize hn0 : q.length + 1 = n0 at hlen ⊢
  generalize (if oth = true then q.tail else q) = q1 at GT hlen ⊢
  cases n0 with
  | zero => omega
  | succ n0 =>
  rw [items_item]
  simp only [Bool.not_true, Bool.false_and, Bool.false_eq_true, if_false]
  cases e1 : itemP q1 with
  | none =>
    have GI1 := hid (fun u (hat : At u rb v s q1) => (show Calls _ _ _ _ (SaidI none u rb v s) by have := GI.out u q1 hat; rwa [e1] at this))
    show Calls _ _ _ _ (SaidS none w rb v s)
    clear e1 GI h hn0
    go_enter Tryd.func64, Tryd.ntmps64
    go_wp2_with (first
      | (go_at_call 41; refine GT.out.mono ?_; rintro e w1 ⟨rfl, hat1, hk1⟩; have hat1 := hid hat1)
      | (go_at_call 67; refine (GI1.out _ hat1.out).mono ?_; rintro e w2 ⟨⟨n, he⟩, hk2⟩; subst he))
    exact ⟨rfl, ⟨_, rfl⟩, (k0.out.trans hk1).trans hk2⟩
  | some x =>
    obtain ⟨a, b, r1⟩ := x
    have hr1 := itemP_lt e1
    have GI1 := hid (fun u (hat : At u rb v s q1) => (show Calls _ _ _ _ (SaidI (some (a, b, r1)) u rb v s) by have := GI.out u q1 hat; rwa [e1] at this))
    show Calls _ _ _ _ (SaidS (finC oth (itemsF n0 false (orB noneB (spanB a b)) r1)) w rb v s)
    rw [or_none (span_fit a b)]
    obtain ⟨R, hR⟩ : ∃ R, Hid (itemsF n0 false (spanB a b) r1 = R) := ⟨_, hid rfl⟩
    rw [hR.out]
    have hR1 : Hid (itemsF (r1.length + 1) false (spanB a b) r1 = R) := hid ((items_more (Nat.le_refl _) (by omega)).trans hR.out)
    have hS1 := hid (span_fit a b)
    clear e1 h hn0 hR
    have GI2 : Hid (∀ u (hat : At u rb v s q1), Calls Tryd.prog 67 #[.pointer (some ⟨rb, 0, none⟩)] u fun e w' => (e = .returned (valB (spanB a b)) ∧ At w' rb v s r1) ∧ Kept (oneBlk rb) u w') := GI1
    clear GI1
    generalize spanB a b = S1 at GI2 hR1 hS1
    obtain ⟨x0, x1, x2, x3⟩ := S1
    have GK1 := hid (fun u q (hat : At u rb v s q) (hq : (q.head? == some 93) = false) => takeNo hat hs 93 hq)
    have GK2 := hid (fun u r (hat : At u rb v s (93 :: r)) => takeYes hat hs)
    rw [show ((93 : UInt8).toNat : Int) = 93 from rfl] at GK1 GK2
    go_enter Tryd.func64, Tryd.ntmps64
    go_wp2_with (first
      | (go_at_call 41; refine GT.out.mono ?_; rintro e w1 ⟨rfl, hat1, hk1⟩; have hat1 := hid hat1)
      | (go_at_call 67; refine (GI2.out _ hat1.out).mono ?_; rintro e w2 ⟨⟨he, hat2⟩, hk2⟩; subst he; have hat2 := hid hat2; have hsz2 : w.heap.size < w2.heap.size := Nat.lt_of_lt_of_le (by simp) (Nat.le_trans hk1.size hk2.size)))
    go_loopw [] (fun wr => ∃ S q', Fit4 S ∧ Hid (At wr rb v s q') ∧ Hid (Blk wr w2.heap.size S) ∧ Hid (Blk wr w.heap.size noneB) ∧ Kept (oneBlk rb) w wr ∧ Hid (itemsF (q'.length + 1) false S q' = R)) (fun wr => plcN wr rb s.length)
    case atStart =>
      exact ⟨⟨x0, x1, x2, x3⟩, r1, hS1.out, hid (hat2.out.keep (al' w2 _)), hid (heap_new w2 _), hid ((((b0.out.kept hk1 hne).kept hk2 hne)).keep (al' w2 _)), al_kept ((k0.out.trans hk1).trans hk2) _, hR1⟩
    case round =>
      obtain ⟨S, q', hfS, hat, bS, bN, hkw, hRq⟩ := hrel
      have hne2 : ¬ oneBlk rb w2.heap.size := fun e => by have : w2.heap.size = rb := e; omega
      have hmu := hat.out.left
      by_cases h93 : q'.head? = some 93
      · obtain ⟨r, rfl⟩ : ∃ r, q' = 93 :: r := by
          cases q' with
          | nil => cases h93
          | cons c t => injection h93 with h; subst h; exact ⟨t, rfl⟩
        have hRv : R = some (S, r) := by rw [← hRq.out, items_item]; rfl
        have GT' := hid (GK2.out wr r hat.out)
        have hRv' := hid hRv
        clear h93 hRv hRq hmu hR1 GI GI2 GK1 GK2 GT hat
        cases oth with
        | false =>
          have hfin : Hid (finC false R = if S = noneB then none else some (S, r)) := hid (by rw [hRv'.out]; rfl)
          obtain ⟨a0, a1, a2, a3⟩ := S
          by_cases hz : (⟨a0, a1, a2, a3⟩ : W4) = noneB
          · have hfin := hid (hfin.out.trans (if_pos hz))
            have hq := eqNone a0 a1 a2 a3 (decide_eq_true hz)
            clear hz
            go_wp2_with (first
              | (go_at_call 41; refine GT'.out.mono ?_; rintro e w3 ⟨rfl, hat3, hk3⟩; have b3 := hid (bS.out.kept hk3 hne2); obtain ⟨s0, s1, s2, s3, s4, s5, s6, s7⟩ := b3.out.cells))
            exact ⟨rfl, SaidS.mk_no hfin.out _ (hkw.trans hk3)⟩
          · have hfin := hid (hfin.out.trans (if_neg hz))
            have hq := eqNone a0 a1 a2 a3 (decide_eq_false hz)
            clear hz
            go_wp2_with (first
              | (go_at_call 41; refine GT'.out.mono ?_; rintro e w3 ⟨rfl, hat3, hk3⟩; have hat3 := hid hat3; have b3 := hid (bS.out.kept hk3 hne2); have c3 := hid (bN.out.kept hk3 hne); obtain ⟨s0, s1, s2, s3, s4, s5, s6, s7⟩ := b3.out.cells; obtain ⟨z0, z1, z2, z3, z4, z5, z6, z7⟩ := Blk.cells (sa := 0) (sb := 0) (sc := 0) (sd := 0) c3.out))
            refine bodyPost_ret (v := .agg #[.int .u64 a0, .int .u64 a1, .int .u64 a2, .int .u64 a3]) (by simp [results, Tryd.results64, go_sem, z0, z1, z2, z3]) rfl (SaidS.mk_yes (S := ⟨a0, a1, a2, a3⟩) hfin.out (hat3.out.put4 ⟨a0, a1, a2, a3⟩ (by omega)) (kept_put4 (hkw.trans hk3) ⟨a0, a1, a2, a3⟩ (fun h => by omega)))
        | true =>
          have hfin : Hid (finC true R = if notB S = noneB then none else some (notB S, r)) := hid (by rw [hRv'.out]; rfl)
          obtain ⟨a0, a1, a2, a3⟩ := S
          have GN := hid (fun u => notC a0 a1 a2 a3 u hfS)
          generalize notB ⟨a0, a1, a2, a3⟩ = T at GN hfin
          obtain ⟨t0, t1, t2, t3⟩ := T
          by_cases hz : (⟨t0, t1, t2, t3⟩ : W4) = noneB
          · have hfin := hid (hfin.out.trans (if_pos hz))
            have hq := eqNone t0 t1 t2 t3 (decide_eq_true hz)
            clear hz
            go_wp2_with (first
              | (go_at_call 41; refine GT'.out.mono ?_; rintro e w3 ⟨rfl, hat3, hk3⟩; have b3 := hid (bS.out.kept hk3 hne2); obtain ⟨s0, s1, s2, s3, s4, s5, s6, s7⟩ := b3.out.cells)
              | (go_at_call 47; refine (GN.out _).mono ?_; rintro e w4 ⟨rfl, hb4⟩; have b4 := hid (b3.out.keep hb4); obtain ⟨m0, m1, m2, m3, m4, m5, m6, m7⟩ := b4.out.cells))
            exact ⟨rfl, SaidS.mk_no hfin.out _ (kept_put4 (b := w2.heap.size) ((hkw.trans hk3).trans (Kept.of_below hb4)) ⟨t0, t1, t2, t3⟩ (fun h => by omega))⟩
          · have hfin := hid (hfin.out.trans (if_neg hz))
            have hq := eqNone t0 t1 t2 t3 (decide_eq_false hz)
            clear hz
            have hnn : ¬ w.heap.size = w2.heap.size := by omega
            go_wp2_with (first
              | (go_at_call 41; refine GT'.out.mono ?_; rintro e w3 ⟨rfl, hat3, hk3⟩; have hat3 := hid hat3; have b3 := hid (bS.out.kept hk3 hne2); have c3 := hid (bN.out.kept hk3 hne); obtain ⟨s0, s1, s2, s3, s4, s5, s6, s7⟩ := b3.out.cells)
              | (go_at_call 47; refine (GN.out _).mono ?_; rintro e w4 ⟨rfl, hb4⟩; have hat4 := hid (hat3.out.keep hb4); have b4 := hid (b3.out.keep hb4); have c4 := hid (c3.out.keep hb4); obtain ⟨m0, m1, m2, m3, m4, m5, m6, m7⟩ := b4.out.cells; obtain ⟨z0, z1, z2, z3, z4, z5, z6, z7⟩ := Blk.cells (sa := 0) (sb := 0) (sc := 0) (sd := 0) c4.out))
            refine bodyPost_ret (v := .agg #[.int .u64 t0, .int .u64 t1, .int .u64 t2, .int .u64 t3]) (by simp [results, Tryd.results64, go_sem, z0, z1, z2, z3]) rfl (SaidS.mk_yes (S := ⟨t0, t1, t2, t3⟩) hfin.out ((hat4.out.put4 ⟨t0, t1, t2, t3⟩ (by omega)).put4 ⟨t0, t1, t2, t3⟩ (by omega)) (kept_put4 (kept_put4 ((hkw.trans hk3).trans (Kept.of_below hb4)) ⟨t0, t1, t2, t3⟩ (fun h => by omega)) ⟨t0, t1, t2, t3⟩ (fun h => by omega)))
      · have hno : (q'.head? == some 93) = false := by simpa using h93
        have GT' := hid (GK1.out wr q' hat.out hno)
        have hit := items_item q'.length false S q'
        rw [hRq.out, hno] at hit
        simp only [Bool.and_false, Bool.false_eq_true, if_false] at hit
        cases e2 : itemP q' with
        | none =>
          rw [e2] at hit
          have GI' := hid (fun u (hat : At u rb v s q') => (show Calls _ _ _ _ (SaidI none u rb v s) by have := GI.out u q' hat; rwa [e2] at this))
          have hfin : Hid (finC oth R = none) := hid (by rw [hit]; rfl)
          clear h93 hRq hmu hR1 GI GI2 GK1 GK2 GT hit e2 hno
          obtain ⟨a0, a1, a2, a3⟩ := S
          go_wp2_with (first
            | (go_at_call 41; refine GT'.out.mono ?_; rintro e w3 ⟨rfl, hb3⟩; have hd3 : Below w3.heap.size w3 w3.drew := (Below.refl _ _).drew; have hat3 := hid ((hat.out.keep hb3).keep hd3); have b3 := hid ((bS.out.keep hb3).keep hd3); obtain ⟨s0, s1, s2, s3, s4, s5, s6, s7⟩ := b3.out.cells))
          have HI : Hid (∀ (Q : Exit → Act → World → Prop) (a : Act) (R' : Ending → World → Prop), (∀ n w4, Kept (oneBlk rb) w3.drew w4 → R' (faultE n) w4) → Calls Tryd.prog 67 #[.pointer (some ⟨rb, 0, none⟩)] w3.drew R') := hid (fun Q a R' hR' => (GI'.out _ hat3.out).mono (by rintro e w4 ⟨⟨n, he⟩, hk4⟩; subst he; exact hR' n w4 hk4))
          refine wp_region_any (by kernel_rfl) ?_
          change wpAny _ _ _ _ _ _ _ (World.drew _)
          refine wpAny_take (i := 1) (v := .pointer (some ⟨rb, 0, none⟩)) rfl (by kernel_rfl) (by kernel_rfl) (by kernel_rfl) (fun _ _ _ h => h) (Or.inl ⟨by rfl, fun w => by go_simp⟩) ?_
          refine wpAny_ready (rs := [0, 2]) (by kernel_rfl) (by simp) ?_
          refine AllReady.cons rfl (fun K hK => ?_) (AllReady.cons rfl (fun K hK => ?_) AllReady.nil)
          · go_simp
            refine hK _ _ ?_
            clear hK K
            refine wpAny_ready (rs := [2]) (by kernel_rfl) (by simp) ?_
            refine AllReady.cons rfl (fun K hK => ?_) AllReady.nil
            go_simp
            refine HI.out (fun _ _ _ => True) ⟨#[], []⟩ _ ?_
            intro n w4 hk4
            exact ⟨rfl, SaidS.mk_no hfin.out _ (((hkw.trans (Kept.of_below hb3)).trans (Kept.of_below hd3)).trans hk4)⟩
          · go_simp
            refine HI.out (fun _ _ _ => True) ⟨#[], []⟩ _ ?_
            intro n w4 hk4
            exact ⟨rfl, SaidS.mk_no hfin.out _ (((hkw.trans (Kept.of_below hb3)).trans (Kept.of_below hd3)).trans hk4)⟩
        | some y =>
          obtain ⟨a', b', r2⟩ := y
          rw [e2] at hit
          have hlt2 := itemP_lt e2
          have hit2 : R = itemsF q'.length false (orB S (spanB a' b')) r2 := hit
          have hR2 : Hid (itemsF (r2.length + 1) false (orB S (spanB a' b')) r2 = R) := hid ((items_more (Nat.le_refl _) (by omega)).trans hit2.symm)
          have GI' : Hid (∀ u (hat : At u rb v s q'), Calls Tryd.prog 67 #[.pointer (some ⟨rb, 0, none⟩)] u fun e w' => (e = .returned (valB (spanB a' b')) ∧ At w' rb v s r2) ∧ Kept (oneBlk rb) u w') := hid (fun u hat => by have := GI.out u q' hat; rw [e2] at this; exact this)
          obtain ⟨a0, a1, a2, a3⟩ := S
          have hfp := span_fit a' b'
          have hf2 := hid (or_fit ⟨a0, a1, a2, a3⟩ (spanB a' b'))
          generalize spanB a' b' = P at GI' hR2 hfp hf2
          obtain ⟨p0, p1, p2, p3⟩ := P
          have GO := hid (fun u => orC a0 a1 a2 a3 p0 p1 p2 p3 u hfS hfp)
          generalize orB ⟨a0, a1, a2, a3⟩ ⟨p0, p1, p2, p3⟩ = T at GO hR2 hf2
          obtain ⟨t0, t1, t2, t3⟩ := T
          have hmu := hid hmu
          have hlt2 := hid hlt2
          clear h93 hRq hR1 GI GI2 GK1 GK2 GT hit hit2 e2 hno
          go_wp2_with (first
            | (go_at_call 41; refine GT'.out.mono ?_; rintro e w3 ⟨rfl, hb3⟩; have hd3 : Below w3.heap.size w3 w3.drew := (Below.refl _ _).drew; have hat3 := hid ((hat.out.keep hb3).keep hd3); have b3 := hid ((bS.out.keep hb3).keep hd3); have c3 := hid ((bN.out.keep hb3).keep hd3); obtain ⟨s0, s1, s2, s3, s4, s5, s6, s7⟩ := b3.out.cells))
          go_region_with (first
            | (go_at_call 67; refine (GI'.out _ hat3.out).mono ?_; rintro e w4 ⟨⟨he, hat4⟩, hk4⟩; subst he; have hat4 := hid hat4; have b4 := hid (b3.out.kept hk4 hne2); have c4 := hid (c3.out.kept hk4 hne); obtain ⟨m0, m1, m2, m3, m4, m5, m6, m7⟩ := b4.out.cells)
            | (go_at_call 68; refine (GO.out _).mono ?_; rintro e w5 ⟨rfl, hb5⟩; have hat5 := hid (hat4.out.keep hb5); have b5 := hid (b4.out.keep hb5); have c5 := hid (c4.out.keep hb5); obtain ⟨n0', n1, n2, n3, n4, n5, n6, n7⟩ := b5.out.cells)
            | fail)
          all_goals
            go_wp2
            have hat6 := hat5.out.put4 (b := w2.heap.size) ⟨t0, t1, t2, t3⟩ (by omega)
            have hm6 := hat6.left
            refine ⟨⟨⟨t0, t1, t2, t3⟩, r2, hf2.out, hid hat6, hid (b5.out.put (S' := ⟨t0, t1, t2, t3⟩)), hid (c5.out.other (S' := ⟨t0, t1, t2, t3⟩) (by omega)), kept_put4 ((((hkw.trans (Kept.of_below hb3)).trans (Kept.of_below hd3)).trans hk4).trans (Kept.of_below hb5)) ⟨t0, t1, t2, t3⟩ (fun h => by omega), hR2⟩, ?_⟩
            have hl2 := hlt2.out
            have hm := hmu.out
            show plcN _ rb s.length < plcN wr rb s.length
            rw [hm]
            exact Nat.lt_of_le_of_lt (Nat.le_of_eq hm6) hl2

set_option maxHeartbeats 1000000 in
theorem pointC (w : World) : Calls Tryd.prog 33 #[] w fun e w' => e = .returned (valB (notB (spanB 10 10))) ∧ Below w.heap.size w w' := by
  have G1 := hid (fun u => oneC 10 u (by omega))
  have hf := span_fit 10 10
  generalize spanB 10 10 = P at G1 hf ⊢
  obtain ⟨p0, p1, p2, p3⟩ := P
  have G2 := hid (fun u => notC p0 p1 p2 p3 u hf)
  generalize notB ⟨p0, p1, p2, p3⟩ = T at G2 ⊢
  obtain ⟨t0, t1, t2, t3⟩ := T
  have b0 : Hid (Blk (w.alloc (.cells #[.int .u64 0, .int .u64 0, .int .u64 0, .int .u64 0] 44)) w.heap.size noneB) := hid (heap_new w _)
  go_enter Tryd.func33, Tryd.ntmps33
  go_wp2_with (first
    | (go_at_call 48; refine (G1.out _).mono ?_; rintro e w1 ⟨rfl, hb1⟩)
    | (go_at_call 47; refine (G2.out _).mono ?_; rintro e w2 ⟨rfl, hb2⟩; have b2 := hid ((b0.out.keep hb1).keep hb2); obtain ⟨z0, z1, z2, z3, z4, z5, z6, z7⟩ := Blk.cells (sa := 0) (sb := 0) (sc := 0) (sd := 0) b2.out))
  refine bodyPost_ret (v := .agg #[.int .u64 t0, .int .u64 t1, .int .u64 t2, .int .u64 t3]) (by simp [results, Tryd.results33, go_sem, z0, z1, z2, z3]) rfl ⟨rfl, bl_put (bl_step (bl_step (al' w _) hb1) hb2) ⟨t0, t1, t2, t3⟩ (Nat.le_refl _)⟩

end Go.Proofs.YtjiljfmejgiabaaDoor
namespace Go.Proofs.YtjiljfmejgiabaaDoor
open Go.RowKit

set_option maxRecDepth 8000 in
set_option maxHeartbeats 8000000 in
theorem toldAll (sa sb sc sd : Nat) (w : World) (hS : Fit4 ⟨sa, sb, sc, sd⟩) (h1 : ¬ countB ⟨sa, sb, sc, sd⟩ = 1) (h255' : countB ⟨sa, sb, sc, sd⟩ = 255) (h255 : ¬ (countB ⟨sa, sb, sc, sd⟩ = 255 ∧ hasB ⟨sa, sb, sc, sd⟩ 10 = false)) :
    Calls Tryd.prog 25 #[valB ⟨sa, sb, sc, sd⟩] w fun e w' => e = .returned (.string (strT (toldL ⟨sa, sb, sc, sd⟩))) ∧ Below w.heap.size w w' := by
  have GC := hid (fun u => refCount sa sb sc sd u hS)
  have GL := hid (fun u => refLeast sa sb sc sd u hS)
  have GH := hid (fun x u (hx : x < 256) => hasC ⟨sa, sb, sc, sd⟩ x u hS hx)
  have GA : Hid (∀ b u, b < 256 → Calls Tryd.prog 36 #[.int .i64 ((b : Nat) : Int), .string ⟨#[91, 93, 94, 45, 92, 47]⟩] u fun e w' => e = .returned (.string (strT (aloneL b tellC))) ∧ Below u.heap.size u w') := hid (fun b u hb => by
    have := refAlone b ⟨#[91, 93, 94, 45, 92, 47]⟩ u hb (by decide)
    rwa [tellC_eq] at this)
  have GA' : Hid (∀ b u, b < 256 → Calls Tryd.prog 36 #[.int .i64 ((b : Nat) : Int), .string ⟨#[46, 42, 43, 63, 40, 41, 91, 93, 124, 92, 47]⟩] u fun e w' => e = .returned (.string (strT (aloneL b tellA))) ∧ Below u.heap.size u w') := hid (fun b u hb => by
    have := refAlone b ⟨#[46, 42, 43, 63, 40, 41, 91, 93, 124, 92, 47]⟩ u hb (by decide)
    rwa [tellA_eq] at this)
  have hal := al' w (.cells #[.int .u64 (sa : Int), .int .u64 (sb : Int), .int .u64 (sc : Int), .int .u64 (sd : Int)] 44)
  have b0 : Hid (Blk (w.alloc (.cells #[.int .u64 (sa : Int), .int .u64 (sb : Int), .int .u64 (sc : Int), .int .u64 (sd : Int)] 44)) w.heap.size ⟨sa, sb, sc, sd⟩) := hid (heap_new w _)
  have h1z : (((countB ⟨sa, sb, sc, sd⟩ : Nat) : Int) == 1) = false := beq_eq_false_iff_ne.2 (by omega)
  have e : toldL ⟨sa, sb, sc, sd⟩ = (91 :: runsL ⟨sa, sb, sc, sd⟩ 0 257) ++ [93] := by unfold toldL; rw [if_neg h1, if_neg h255]; rfl
  rw [e, ← strT_app]
  have hT0 : Hid ([91] ++ runsL ⟨sa, sb, sc, sd⟩ 0 257 = 91 :: runsL ⟨sa, sb, sc, sd⟩ 0 257) := hid rfl
  generalize 91 :: runsL ⟨sa, sb, sc, sd⟩ 0 257 = T at hT0 ⊢
  have hstep := hid (fun A b f n => @told_step ⟨sa, sb, sc, sd⟩ A T b f n)
  have hend := hid (fun A b f => @told_end ⟨sa, sb, sc, sd⟩ A T b f)
  have hrs := hid (fun b k => @run_step ⟨sa, sb, sc, sd⟩ b k)
  have hrt := hid (fun b k => @run_stop ⟨sa, sb, sc, sd⟩ b k)
  have hrl := hid (fun b => runN_le ⟨sa, sb, sc, sd⟩ 256 b)
  obtain ⟨N, hN⟩ : ∃ N : Nat → Nat, Hid (∀ b, N b = runN ⟨sa, sb, sc, sd⟩ b 256) := ⟨_, hid (fun _ => rfl)⟩
  clear e hS
  have hh10 : hasB ⟨sa, sb, sc, sd⟩ 10 = true := by
    cases hx : hasB ⟨sa, sb, sc, sd⟩ 10 with
    | true => rfl
    | false => exact absurd ⟨h255', hx⟩ h255
  have GH0 := hid (fun u => GH.out 10 u (by omega))
  rw [hh10] at GH0
  rw [h255'] at GC
  clear h1 h1z h255 h255' hh10 GL GA'
  go_enter Tryd.func25, Tryd.ntmps25
  go_wp2_with (first
    | (go_at_call 35; refine (GC.out w1).mono ?_; rintro e w2 ⟨rfl, hb2⟩; have b2 := hid (b1.out.keep hb2); obtain ⟨t0, t1, t2, t3, t4, t5, t6, t7⟩ := b2.out.cells)
    | (go_at_call 35; refine (GC.out _).mono ?_; rintro e w1 ⟨rfl, hb1⟩; have b1 := hid (b0.out.keep hb1); obtain ⟨s0, s1, s2, s3, s4, s5, s6, s7⟩ := b1.out.cells)
    | (go_at_call 38; refine (GH0.out _).mono ?_; rintro e w3 ⟨rfl, hb3⟩; have b3 := hid (b2.out.keep hb3)))
  have bX := b3
  have hbX := bl_step (bl_step (bl_step hal hb1) hb2) hb3
  clear b1 b2 b3 hb1 hb2 hb3
  generalize w3 = wX at bX hbX ⊢
  go_loopw [3, 4] (fun o i wr => ∃ (b f : Nat) (A : Txt), b ≤ 257 ∧ i = .int .i64 b ∧ o = .string (strT A) ∧ Hid (257 ≤ b + f ∧ A ++ runsL ⟨sa, sb, sc, sd⟩ b f = T) ∧ A.length ≤ 9 * b + 1 ∧ Hid (Blk wr w.heap.size ⟨sa, sb, sc, sd⟩) ∧ Below w.heap.size w wr) (fun _ i _ => 257 - (intOf i).toNat)
  case atStart => exact ⟨0, 257, [91], by omega, rfl, rfl, hid ⟨by omega, hT0.out⟩, by simp, bX, hbX⟩
  case round =>
    obtain ⟨b, f, A, hb, rfl, rfl, hfT, hAl, bR, hbR⟩ := hrel
    have hAs := strT_size A
    by_cases hlt : b < 256
    · have hltz : (b : Int) < 256 := by omega
      have hrl0 := hrl.out b
      have hN0 := hid (hN.out b)
      go_wp2_with fail
      go_loopw [5] (fun n wq => ∃ k : Nat, n = .int .i64 k ∧ b + k ≤ 256 ∧ Hid (k + runN ⟨sa, sb, sc, sd⟩ (b + k) (256 - k) = runN ⟨sa, sb, sc, sd⟩ b 256) ∧ Hid (Blk wq w.heap.size ⟨sa, sb, sc, sd⟩) ∧ Below w.heap.size w wq) (fun n _ => 256 - (intOf n).toNat)
      case atStart => exact ⟨0, rfl, by omega, hid (by simp), bR, hbR⟩
      case round =>
        obtain ⟨k, rfl, hk, hrun, bQ, hbQ⟩ := hrel
        obtain ⟨q0, q1, q2, q3, q4, q5, q6, q7⟩ := bQ.out.cells
        by_cases hkl : b + k < 256
        · have hklz : (b : Int) + (k : Int) < 256 := by omega
          have hcast : (b : Int) + (k : Int) = ((b + k : Nat) : Int) := by omega
          cases hh : hasB ⟨sa, sb, sc, sd⟩ (b + k) with
          | true =>
            have hr2 := hid (hrs.out b k hkl hh hrun.out)
            have GH1 : Hid (∀ u, Calls Tryd.prog 38 #[.agg #[.int .u64 (sa : Int), .int .u64 (sb : Int), .int .u64 (sc : Int), .int .u64 (sd : Int)], .int .i64 ((b : Int) + (k : Int))] u fun e w' => e = .returned (.bool true) ∧ Below u.heap.size u w') := hid (fun u => by have := GH.out (b + k) u hkl; rw [hh] at this; rw [hcast]; exact this)
            clear hh hcast hrun
            go_wp2_with (go_at_call 38; refine (GH1.out _).mono ?_; rintro e w4 ⟨rfl, hb4⟩)
            exact ⟨⟨k + 1, by go_num, by omega, hr2, hid (bQ.out.keep hb4), bl_step hbQ hb4⟩, by simp [intOf]; omega⟩
          | false =>
            have hkn' := hrt.out b k (Or.inr hh) hrun.out
            have GH1 : Hid (∀ u, Calls Tryd.prog 38 #[.agg #[.int .u64 (sa : Int), .int .u64 (sb : Int), .int .u64 (sc : Int), .int .u64 (sd : Int)], .int .i64 ((b : Int) + (k : Int))] u fun e w' => e = .returned (.bool false) ∧ Below u.heap.size u w') := hid (fun u => by have := GH.out (b + k) u hkl; rw [hh] at this; rw [hcast]; exact this)
            obtain ⟨f', hf1', hf2'⟩ := hstep.out A b f k hlt hfT.out.1 hkn' hfT.out.2
            clear hkn' hh hcast hrun
            rcases (show k = 0 ∨ k = 1 ∨ k = 2 ∨ 2 < k by omega) with rfl | rfl | rfl | hk2
            · rw [runL_0, List.append_nil] at hf2'
              have hf1 := hid hf1'
              have hf2 := hid hf2'
              clear hf1' hf2'
              go_wp2_with (first
                | (go_at_call 38; refine (GH1.out _).mono ?_; rintro e w4 ⟨rfl, hb4⟩; have bQ4 := hid (bQ.out.keep hb4); have hbQ4 := bl_step hbQ hb4))
              exact ⟨⟨b + 0 + 1, f', A, by omega, by go_num, rfl, hid ⟨hf1.out, hf2.out⟩, by omega, bQ4, hbQ4⟩, by simp [intOf]; omega⟩
            · rw [runL_1] at hf2'
              have hf1 := hid hf1'
              have hf2 := hid hf2'
              clear hf1' hf2'
              have hXl := alone_le b tellC
              have hXs := strT_size (aloneL b tellC)
              have GA1 := hid (fun u => GA.out b u hlt)
              have hap := hid (strT_app A (aloneL b tellC))
              generalize aloneL b tellC = X at hf2 hXl hXs GA1 hap
              have k1 := fun u => run_cat (strT A) (strT X) u (by omega)
              go_wp2_with (first
                | (go_at_call 38; refine (GH1.out _).mono ?_; rintro e w4 ⟨rfl, hb4⟩; have bQ4 := hid (bQ.out.keep hb4); have hbQ4 := bl_step hbQ hb4)
                | (go_at_call 36; refine (GA1.out _).mono ?_; rintro e w5 ⟨rfl, hb5⟩))
              exact ⟨⟨b + 1 + 1, f', A ++ X, by omega, by go_num, by rw [hap.out], hid ⟨hf1.out, hf2.out⟩, by rw [List.length_append]; omega, hid (bQ4.out.keep hb5), bl_step hbQ4 hb5⟩, by simp [intOf]; omega⟩
            · rw [runL_2] at hf2'
              have hf1 := hid hf1'
              have hf2 := hid hf2'
              clear hf1' hf2'
              have hXl := alone_le b tellC
              have hXs := strT_size (aloneL b tellC)
              have hYl := alone_le (b + 1) tellC
              have hYs := strT_size (aloneL (b + 1) tellC)
              have GA1 := hid (fun u => GA.out b u hlt)
              have GA2 := hid (fun u => GA.out (b + 1) u (by omega))
              have hap := hid (strT_app A (aloneL b tellC))
              have hap2 := hid (strT_app (A ++ aloneL b tellC) (aloneL (b + 1) tellC))
              have hc1 : ((b + 1 : Nat) : Int) = (b : Int) + 1 := by omega
              rw [hc1] at GA2
              generalize aloneL b tellC = X at hf2 hXl hXs GA1 hap hap2
              generalize aloneL (b + 1) tellC = Y at hf2 hYl hYs GA2 hap2
              have GA3 : Hid (∀ (z : Int) (u : World), z = (b : Int) + 1 → Calls Tryd.prog 36 #[.int .i64 z, .string ⟨#[91, 93, 94, 45, 92, 47]⟩] u fun e w' => e = .returned (.string (strT Y)) ∧ Below u.heap.size u w') := hid (fun z u hz => by subst hz; exact GA2.out u)
              clear GA2
              have k1 := fun u => run_cat (strT A) (strT X) u (by omega)
              have k2 := fun u => run_cat (strT A ++ strT X) (strT Y) u (by rw [ByteArray.size_append]; omega)
              go_wp2_with (first
                | (go_at_call 38; refine (GH1.out _).mono ?_; rintro e w4 ⟨rfl, hb4⟩; have bQ4 := hid (bQ.out.keep hb4); have hbQ4 := bl_step hbQ hb4)
                | (go_at_call 36; refine (GA3.out _ w5 (by omega)).mono ?_; rintro e w6 ⟨rfl, hb6⟩)
                | (go_at_call 36; refine (GA1.out _).mono ?_; rintro e w5 ⟨rfl, hb5⟩))
              exact ⟨⟨b + 2 + 1, f', A ++ (X ++ Y), by omega, by go_num, by rw [hap.out, hap2.out, List.append_assoc], hid ⟨hf1.out, hf2.out⟩, by rw [List.length_append, List.length_append]; omega, hid ((bQ4.out.keep hb5).keep hb6), bl_step (bl_step hbQ4 hb5) hb6⟩, by simp [intOf]; omega⟩
            · rw [runL_3 b k hk2] at hf2'
              have hf1 := hid hf1'
              have hf2 := hid hf2'
              clear hf1' hf2'
              have hk2z : (2 : Int) < (k : Int) := by omega
              have hk1z : (1 : Int) < (k : Int) := by omega
              have hk0z : (0 : Int) < (k : Int) := by omega
              have hXl := alone_le b tellC
              have hXs := strT_size (aloneL b tellC)
              have hYl := alone_le (b + k - 1) tellC
              have hYs := strT_size (aloneL (b + k - 1) tellC)
              have GA1 := hid (fun u => GA.out b u hlt)
              have GA2 := hid (fun u => GA.out (b + k - 1) u (by omega))
              have hap := hid (strT_app A (aloneL b tellC))
              have hap1 : Hid (strT (A ++ aloneL b tellC) ++ ⟨#[45]⟩ = strT (A ++ aloneL b tellC ++ [45])) := hid (strT_app (A ++ aloneL b tellC) [45])
              have hap2 := hid (strT_app (A ++ aloneL b tellC ++ [45]) (aloneL (b + k - 1) tellC))
              have hc1 : ((b + k - 1 : Nat) : Int) = (b : Int) + (k : Int) - 1 := by omega
              rw [hc1] at GA2
              generalize aloneL b tellC = X at hf2 hXl hXs GA1 hap hap1 hap2
              generalize aloneL (b + k - 1) tellC = Y at hf2 hYl hYs GA2 hap2
              have GA3 : Hid (∀ (z : Int) (u : World), z = (b : Int) + (k : Int) - 1 → Calls Tryd.prog 36 #[.int .i64 z, .string ⟨#[91, 93, 94, 45, 92, 47]⟩] u fun e w' => e = .returned (.string (strT Y)) ∧ Below u.heap.size u w') := hid (fun z u hz => by subst hz; exact GA2.out u)
              clear GA2
              have h45 : (⟨#[45]⟩ : ByteArray).size = 1 := rfl
              have k1 := fun u => run_cat (strT A) (strT X) u (by omega)
              have k2 := fun u => run_cat (strT A ++ strT X) ⟨#[45]⟩ u (by rw [ByteArray.size_append]; omega)
              have k3 := fun u => run_cat (strT A ++ strT X ++ ⟨#[45]⟩) (strT Y) u (by rw [ByteArray.size_append, ByteArray.size_append]; omega)
              go_wp2_with (first
                | (go_at_call 38; refine (GH1.out _).mono ?_; rintro e w4 ⟨rfl, hb4⟩; have bQ4 := hid (bQ.out.keep hb4); have hbQ4 := bl_step hbQ hb4)
                | (go_at_call 36; refine (GA3.out _ w5 (by omega)).mono ?_; rintro e w6 ⟨rfl, hb6⟩)
                | (go_at_call 36; refine (GA1.out _).mono ?_; rintro e w5 ⟨rfl, hb5⟩))
              exact ⟨⟨b + k + 1, f', A ++ (X ++ ([45] ++ Y)), by omega, by go_num, by rw [hap.out, hap1.out, hap2.out]; simp, hid ⟨hf1.out, hf2.out⟩, by rw [List.length_append, List.length_append, List.length_append]; simp; omega, hid ((bQ4.out.keep hb5).keep hb6), bl_step (bl_step hbQ4 hb5) hb6⟩, by simp [intOf]; omega⟩
        · have hklz : ¬ (b : Int) + (k : Int) < 256 := by omega
          have hkn' := hrt.out b k (Or.inl (by omega)) hrun.out
          obtain ⟨f', hf1', hf2'⟩ := hstep.out A b f k hlt hfT.out.1 hkn' hfT.out.2
          clear hkn' hrun
          rcases (show k = 0 ∨ k = 1 ∨ k = 2 ∨ 2 < k by omega) with rfl | rfl | rfl | hk2
          · exact absurd hlt (by omega)
          · rw [runL_1] at hf2'
            have hf1 := hid hf1'
            have hf2 := hid hf2'
            clear hf1' hf2'
            have hXl := alone_le b tellC
            have hXs := strT_size (aloneL b tellC)
            have GA1 := hid (fun u => GA.out b u hlt)
            have hap := hid (strT_app A (aloneL b tellC))
            generalize aloneL b tellC = X at hf2 hXl hXs GA1 hap
            have k1 := fun u => run_cat (strT A) (strT X) u (by omega)
            have hz : ¬ ((b : Int) + 1 < 256) := by omega
            have hkH := hid hk
            clear hklz hkl hk
            go_wp2_with (first
              | (go_at_call 36; refine (GA1.out _).mono ?_; rintro e w5 ⟨rfl, hb5⟩))
            have hk := hkH.out
            exact ⟨⟨b + 1 + 1, f', A ++ X, by omega, by go_num, by rw [hap.out], hid ⟨hf1.out, hf2.out⟩, by rw [List.length_append]; omega, hid (bQ.out.keep hb5), bl_step hbQ hb5⟩, by simp [intOf]; omega⟩
          · rw [runL_2] at hf2'
            have hf1 := hid hf1'
            have hf2 := hid hf2'
            clear hf1' hf2'
            have hXl := alone_le b tellC
            have hXs := strT_size (aloneL b tellC)
            have hYl := alone_le (b + 1) tellC
            have hYs := strT_size (aloneL (b + 1) tellC)
            have GA1 := hid (fun u => GA.out b u hlt)
            have GA2 := hid (fun u => GA.out (b + 1) u (by omega))
            have hap := hid (strT_app A (aloneL b tellC))
            have hap2 := hid (strT_app (A ++ aloneL b tellC) (aloneL (b + 1) tellC))
            have hc1 : ((b + 1 : Nat) : Int) = (b : Int) + 1 := by omega
            rw [hc1] at GA2
            generalize aloneL b tellC = X at hf2 hXl hXs GA1 hap hap2
            generalize aloneL (b + 1) tellC = Y at hf2 hYl hYs GA2 hap2
            have GA3 : Hid (∀ (z : Int) (u : World), z = (b : Int) + 1 → Calls Tryd.prog 36 #[.int .i64 z, .string ⟨#[91, 93, 94, 45, 92, 47]⟩] u fun e w' => e = .returned (.string (strT Y)) ∧ Below u.heap.size u w') := hid (fun z u hz => by subst hz; exact GA2.out u)
            clear GA2
            have k1 := fun u => run_cat (strT A) (strT X) u (by omega)
            have k2 := fun u => run_cat (strT A ++ strT X) (strT Y) u (by rw [ByteArray.size_append]; omega)
            have hz : ¬ ((b : Int) + 2 < 256) := by omega
            have hkH := hid hk
            clear hklz hkl hk
            go_wp2_with (first
              | (go_at_call 36; refine (GA3.out _ w5 (by omega)).mono ?_; rintro e w6 ⟨rfl, hb6⟩)
              | (go_at_call 36; refine (GA1.out _).mono ?_; rintro e w5 ⟨rfl, hb5⟩))
            have hk := hkH.out
            exact ⟨⟨b + 2 + 1, f', A ++ (X ++ Y), by omega, by go_num, by rw [hap.out, hap2.out, List.append_assoc], hid ⟨hf1.out, hf2.out⟩, by rw [List.length_append, List.length_append]; omega, hid ((bQ.out.keep hb5).keep hb6), bl_step (bl_step hbQ hb5) hb6⟩, by simp [intOf]; omega⟩
          · rw [runL_3 b k hk2] at hf2'
            have hf1 := hid hf1'
            have hf2 := hid hf2'
            clear hf1' hf2'
            have hk2z : (2 : Int) < (k : Int) := by omega
            have hk1z : (1 : Int) < (k : Int) := by omega
            have hk0z : (0 : Int) < (k : Int) := by omega
            have hXl := alone_le b tellC
            have hXs := strT_size (aloneL b tellC)
            have hYl := alone_le (b + k - 1) tellC
            have hYs := strT_size (aloneL (b + k - 1) tellC)
            have GA1 := hid (fun u => GA.out b u hlt)
            have GA2 := hid (fun u => GA.out (b + k - 1) u (by omega))
            have hap := hid (strT_app A (aloneL b tellC))
            have hap1 : Hid (strT (A ++ aloneL b tellC) ++ ⟨#[45]⟩ = strT (A ++ aloneL b tellC ++ [45])) := hid (strT_app (A ++ aloneL b tellC) [45])
            have hap2 := hid (strT_app (A ++ aloneL b tellC ++ [45]) (aloneL (b + k - 1) tellC))
            have hc1 : ((b + k - 1 : Nat) : Int) = (b : Int) + (k : Int) - 1 := by omega
            rw [hc1] at GA2
            generalize aloneL b tellC = X at hf2 hXl hXs GA1 hap hap1 hap2
            generalize aloneL (b + k - 1) tellC = Y at hf2 hYl hYs GA2 hap2
            have GA3 : Hid (∀ (z : Int) (u : World), z = (b : Int) + (k : Int) - 1 → Calls Tryd.prog 36 #[.int .i64 z, .string ⟨#[91, 93, 94, 45, 92, 47]⟩] u fun e w' => e = .returned (.string (strT Y)) ∧ Below u.heap.size u w') := hid (fun z u hz => by subst hz; exact GA2.out u)
            clear GA2
            have h45 : (⟨#[45]⟩ : ByteArray).size = 1 := rfl
            have k1 := fun u => run_cat (strT A) (strT X) u (by omega)
            have k2 := fun u => run_cat (strT A ++ strT X) ⟨#[45]⟩ u (by rw [ByteArray.size_append]; omega)
            have k3 := fun u => run_cat (strT A ++ strT X ++ ⟨#[45]⟩) (strT Y) u (by rw [ByteArray.size_append, ByteArray.size_append]; omega)
            have hsum : (b : Int) + (k : Int) = 256 := by omega
            have hkH := hid hk
            have hk256 : k ≤ 256 := by omega
            clear hklz hkl hk
            go_wp2_with (first
              | (go_at_call 36; refine (GA3.out _ w5 (by omega)).mono ?_; rintro e w6 ⟨rfl, hb6⟩)
              | (go_at_call 36; refine (GA1.out _).mono ?_; rintro e w5 ⟨rfl, hb5⟩))
            have hk := hkH.out
            exact ⟨⟨b + k + 1, f', A ++ (X ++ ([45] ++ Y)), by omega, by go_num, by rw [hap.out, hap1.out, hap2.out]; simp, hid ⟨hf1.out, hf2.out⟩, by rw [List.length_append, List.length_append, List.length_append]; simp; omega, hid ((bQ.out.keep hb5).keep hb6), bl_step (bl_step hbQ hb5) hb6⟩, by simp [intOf]; omega⟩
    · have hltz : ¬ (b : Int) < 256 := by omega
      have hAT := hend.out A b f hlt hfT.out.2
      subst hAT
      have k1 := fun u => run_cat (strT A) ⟨#[93]⟩ u (by rw [hAs, show (⟨#[93]⟩ : ByteArray).size = 1 from rfl]; omega)
      go_wp2
      go_ret
      exact ⟨rfl, hbR⟩

end Go.Proofs.YtjiljfmejgiabaaDoor
