/- The reader: an item of a class. == and != on sets of bytes. -/
import Derived.Test.YtjiljfmejgiabaaDoorJ19
import Derived.Test.YtjiljfmejgiabaaDoorJ3
namespace Go.Proofs.YtjiljfmejgiabaaDoor
open Go.RowKit

/-- an item: its two bytes, and what is left -/
def itemP (q : Txt) : Option (Nat × Nat × Txt) :=
  match signF leftC q with
  | none => none
  | some (a, s1) =>
    if s1.head? == some 45 then
      match signF leftC s1.tail with
      | none => none
      | some (b, s2) => if b < a then none else some (a, b, s2)
    else some (a, a, s1)
theorem items_item (n : Nat) (first : Bool) (acc : W4) (s : Txt) : itemsF (n + 1) first acc s =
    if !first && s.head? == some 93 then some (acc, s.tail) else
    match itemP s with
    | none => none
    | some (a, b, r) => itemsF n false (orB acc (spanB a b)) r := by
  rw [itemsF]
  split
  · rfl
  unfold itemP
  cases signF leftC s with
  | none => rfl
  | some x =>
    obtain ⟨a, s1⟩ := x
    simp only
    split
    · cases signF leftC s1.tail with
      | none => rfl
      | some y =>
        obtain ⟨b, s2⟩ := y
        simp only
        split <;> rfl
    · rfl
theorem itemP_lt {q r : Txt} {a b : Nat} (h : itemP q = some (a, b, r)) : r.length < q.length := by
  unfold itemP at h
  split at h
  · cases h
  rename_i a' s1 hs
  have h1 := signF_lt hs
  split at h
  · split at h
    · cases h
    rename_i b' s2 hs2
    have h2 := signF_lt hs2
    have h3 : s1.tail.length ≤ s1.length := by simp
    split at h
    · cases h
    · injection h with h; injection h with _ h; injection h with _ h; subst h; omega
  · injection h with h; injection h with _ h; injection h with _ h; subst h; exact h1
theorem items_fuel : ∀ (n : Nat) (first : Bool) (acc : W4) (s : Txt), s.length + 1 ≤ n → itemsF n first acc s = itemsF (n + 1) first acc s
  | 0, _, _, _, h => by omega
  | n + 1, first, acc, s, h => by
    rw [items_item, items_item (n + 1)]
    split
    · rfl
    cases e : itemP s with
    | none => rfl
    | some x =>
      obtain ⟨a, b, r⟩ := x
      have := itemP_lt e
      exact items_fuel n false _ r (by omega)
theorem items_more {n m : Nat} {first : Bool} {acc : W4} {s : Txt} (h : s.length + 1 ≤ n) (h' : n ≤ m) : itemsF n first acc s = itemsF m first acc s := by
  induction h' with
  | refl => rfl
  | step hm ih =>
    rename_i m
    have hm' : n ≤ m := hm
    exact ih.trans (items_fuel m first acc s (by omega))
theorem sign_byte {left : UInt8 → Bool} {q r : Txt} {b : Nat} (h : signF left q = some (b, r)) : b < 256 := by
  cases q with
  | nil => cases h
  | cons c q =>
    simp only [signF] at h
    have hc := c.toNat_lt
    split at h
    · cases h
    split at h
    · cases q with
      | nil => cases h
      | cons d q =>
        have hd := d.toNat_lt
        by_cases h4 : d = 120
        · subst h4
          rw [escF_hex] at h
          cases e1 : hexP q with
          | none => rw [e1] at h; cases h
          | some x =>
            obtain ⟨a, r1⟩ := x
            have := hexP_lt e1
            rw [e1] at h
            simp only at h
            cases e2 : hexP r1 with
            | none => rw [e2] at h; cases h
            | some y =>
              obtain ⟨b', r2⟩ := y
              have := hexP_lt e2
              rw [e2] at h
              injection h with h; injection h with h _
              omega
        · simp only [escF] at h
          rw [if_neg h4] at h
          split at h
          · injection h with h; injection h with h _; omega
          split at h
          · injection h with h; injection h with h _; omega
          split at h
          · injection h with h; injection h with h _; omega
          split at h
          · injection h with h; injection h with h _; omega
          · cases h
    split at h
    · cases h
    · injection h with h; injection h with h _; omega

/-- a fault, told by panic -/
abbrev faultE (n : Int) : Ending := .panicked [{ v := .iface 53 (.int .i64 n), recovered := false }]
def SaidI (res : Option (Nat × Nat × Txt)) (w : World) (rb : Nat) (v : Value) (s : Txt) : Ending → World → Prop := fun e w' =>
  (match res with
    | some (a, b, q) => e = .returned (valB (spanB a b)) ∧ At w' rb v s q
    | none => ∃ n, e = faultE n) ∧ Kept (oneBlk rb) w w'
theorem al_kept {w u : World} {F : Nat → Prop} (h : Kept F w u) (o : Obj) : Kept F w (u.alloc o) := h.trans (Kept.of_below (al' u o))
theorem kept_put4 {F : Nat → Prop} {w u : World} (h : Kept F w u) {b : Nat} (S : W4) (hb : b < w.heap.size → F b) : Kept F w (put4 u b S) := by
  unfold put4
  exact (((h.setCell (a := ⟨b, 0, none⟩) hb).setCell (a := ⟨b, 1, none⟩) hb).setCell (a := ⟨b, 2, none⟩) hb).setCell (a := ⟨b, 3, none⟩) hb
theorem At.put4 {w : World} {rb b : Nat} {v : Value} {s q : Txt} (h : At w rb v s q) (S : W4) (hne : rb ≠ b) : At (Go.Proofs.YtjiljfmejgiabaaDoor.put4 w b S) rb v s q := by
  obtain ⟨pre, h1, h2⟩ := h
  refine ⟨pre, h1, ?_⟩
  show (World.setCell (World.setCell (World.setCell (World.setCell w _ _) _ _) _ _) _ _).heap[rb]? = _
  rw [Below.heap_setCell _ _ _ _ hne, Below.heap_setCell _ _ _ _ hne, Below.heap_setCell _ _ _ _ hne, Below.heap_setCell _ _ _ _ hne]
  exact h2
theorem Blk.kept {F : Nat → Prop} {w w' : World} {b : Nat} {S : W4} (h : Blk w b S) (hk : Kept F w w') (hn : ¬ F b) : Blk w' b S := hk.blk h hn

set_option maxHeartbeats 2000000 in
theorem itemC {w : World} {rb : Nat} {v : Value} {s q : Txt} (h : At w rb v s q) (hs : s.length ≤ 200) :
    Calls Tryd.prog 67 #[.pointer (some ⟨rb, 0, none⟩)] w (SaidI (itemP q) w rb v s) := by
  have hrb : rb < w.heap.size := by obtain ⟨_, _, hb⟩ := h; exact blk_lt hb
  have hpl := h.place
  have h1 := h.keep (al' w (.cells #[.int .u64 0, .int .u64 0, .int .u64 0, .int .u64 0] 44))
  have GT := hid (fun u q (hat : At u rb v s q) => toldC hat hs classS leftC tells_class)
  have b0 : Hid (Blk (w.alloc (.cells #[.int .u64 0, .int .u64 0, .int .u64 0, .int .u64 0] 44)) w.heap.size noneB) := hid (heap_new w _)
  have k0 : Hid (Kept (oneBlk rb) w (w.alloc (.cells #[.int .u64 0, .int .u64 0, .int .u64 0, .int .u64 0] 44))) := hid (Kept.of_below (al' w _))
  have hne : ¬ oneBlk rb w.heap.size := fun e => by have : w.heap.size = rb := e; omega
  have hpl1 := h1.place
  have h1 := hid h1
  generalize plc s q = p at hpl hpl1
  cases e1 : signF leftC q with
  | none =>
    have GT1 := hid (fun u (hat : At u rb v s q) => (show Calls _ _ _ _ (Said (plc s q) none u rb v s) by have := GT.out u q hat; rwa [e1] at this))
    have hi : itemP q = none := by unfold itemP; rw [e1]
    rw [hi]
    clear e1 GT hi h
    go_enter Tryd.func67, Tryd.ntmps67
    go_wp2_with (first
      | (go_at_call 65; refine (GT1.out _ h1.out).mono ?_; intro e w1 hw1; obtain ⟨he1, hk1⟩ := hw1.no; subst he1))
    exact ⟨rfl, ⟨_, rfl⟩, k0.out.trans hk1⟩
  | some x =>
    obtain ⟨a, s1⟩ := x
    have ha := sign_byte e1
    have GT1 := hid (fun u (hat : At u rb v s q) => (show Calls _ _ _ _ (Said (plc s q) (some (a, s1)) u rb v s) by have := GT.out u q hat; rwa [e1] at this))
    by_cases h45 : s1.head? = some 45
    · obtain ⟨s1', rfl⟩ : ∃ s1', s1 = 45 :: s1' := by
        cases s1 with
        | nil => cases h45
        | cons c t => injection h45 with h; subst h; exact ⟨t, rfl⟩
      have GK := hid (fun u (hat : At u rb v s (45 :: s1')) => takeYes hat hs)
      rw [show ((45 : UInt8).toNat : Int) = 45 from rfl] at GK
      cases e2 : signF leftC s1' with
      | none =>
        have GT2 := hid (fun u (hat : At u rb v s s1') => (show Calls _ _ _ _ (Said (plc s s1') none u rb v s) by have := GT.out u s1' hat; rwa [e2] at this))
        have hi : itemP q = none := by unfold itemP; rw [e1]; simp [e2]
        rw [hi]
        clear e1 e2 GT hi h h45
        go_enter Tryd.func67, Tryd.ntmps67
        go_wp2_with (first
          | (go_at_call 65; refine (GT2.out _ hat2.out).mono ?_; intro e w3 hw3; obtain ⟨he3, hk3⟩ := hw3.no; subst he3)
          | (go_at_call 65; refine (GT1.out _ h1.out).mono ?_; intro e w1 hw1; obtain ⟨he1, hat1, hk1⟩ := hw1.yes; subst he1; have hat1 := hid hat1)
          | (go_at_call 41; refine (GK.out _ hat1.out).mono ?_; rintro e w2 ⟨rfl, hat2, hk2⟩; have hat2 := hid hat2))
        exact ⟨rfl, ⟨_, rfl⟩, ((k0.out.trans hk1).trans hk2).trans hk3⟩
      | some y =>
        obtain ⟨b, s2⟩ := y
        have hb := sign_byte e2
        have GT2 := hid (fun u (hat : At u rb v s s1') => (show Calls _ _ _ _ (Said (plc s s1') (some (b, s2)) u rb v s) by have := GT.out u s1' hat; rwa [e2] at this))
        by_cases hlt : b < a
        · have hi : itemP q = none := by unfold itemP; rw [e1]; simp [e2, hlt]
          have hltz : (b : Int) < (a : Int) := by omega
          rw [hi]
          clear e1 e2 GT hi h h45
          go_enter Tryd.func67, Tryd.ntmps67
          go_wp2_with (first
            | (go_at_call 65; refine (GT2.out _ hat2.out).mono ?_; intro e w3 hw3; obtain ⟨he3, hat3, hk3⟩ := hw3.yes; subst he3)
            | (go_at_call 65; refine (GT1.out _ h1.out).mono ?_; intro e w1 hw1; obtain ⟨he1, hat1, hk1⟩ := hw1.yes; subst he1; have hat1 := hid hat1)
            | (go_at_call 41; refine (GK.out _ hat1.out).mono ?_; rintro e w2 ⟨rfl, hat2, hk2⟩; have hat2 := hid hat2))
          exact ⟨rfl, ⟨_, rfl⟩, ((k0.out.trans hk1).trans hk2).trans hk3⟩
        · have hi : itemP q = some (a, b, s2) := by unfold itemP; rw [e1]; simp [e2, hlt]
          have hltz : ¬ (b : Int) < (a : Int) := by omega
          have GS := hid (fun u => spanC a b u ha hb)
          rw [hi]
          show Calls _ _ _ _ fun e w' => (e = .returned (valB (spanB a b)) ∧ At w' rb v s s2) ∧ Kept (oneBlk rb) w w'
          clear e1 e2 GT hi h h45
          generalize spanB a b = R at GS ⊢
          obtain ⟨r0, r1, r2, r3⟩ := R
          go_enter Tryd.func67, Tryd.ntmps67
          go_wp2_with (first
            | (go_at_call 65; refine (GT2.out _ hat2.out).mono ?_; intro e w3 hw3; obtain ⟨he3, hat3, hk3⟩ := hw3.yes; subst he3; have hat3 := hid hat3; have b3 := hid (((b0.out.kept hk1 hne).kept hk2 hne).kept hk3 hne))
            | (go_at_call 65; refine (GT1.out _ h1.out).mono ?_; intro e w1 hw1; obtain ⟨he1, hat1, hk1⟩ := hw1.yes; subst he1; have hat1 := hid hat1)
            | (go_at_call 41; refine (GK.out _ hat1.out).mono ?_; rintro e w2 ⟨rfl, hat2, hk2⟩; have hat2 := hid hat2)
            | (go_at_call 52; refine (GS.out _).mono ?_; rintro e w4 ⟨rfl, hb4⟩; have b4 := hid (b3.out.keep hb4); have hat4 := hid (hat3.out.keep hb4); obtain ⟨z0, z1, z2, z3, z4, z5, z6, z7⟩ := Blk.cells (sa := 0) (sb := 0) (sc := 0) (sd := 0) b4.out))
          refine bodyPost_ret (v := .agg #[.int .u64 r0, .int .u64 r1, .int .u64 r2, .int .u64 r3]) (by simp [results, Tryd.results67, go_sem, z0, z1, z2, z3]) rfl ⟨⟨rfl, ?_⟩, ?_⟩
          · exact hat4.out.put4 ⟨r0, r1, r2, r3⟩ (by omega)
          · exact kept_put4 ((((k0.out.trans hk1).trans hk2).trans hk3).trans (Kept.of_below hb4)) ⟨r0, r1, r2, r3⟩ (fun h => by omega)
    · have hno : (s1.head? == some 45) = false := by simpa using h45
      have GK := hid (fun u (hat : At u rb v s s1) => takeNo hat hs 45 hno)
      rw [show ((45 : UInt8).toNat : Int) = 45 from rfl] at GK
      have hi : itemP q = some (a, a, s1) := by unfold itemP; rw [e1]; simp [h45]
      have GS := hid (fun u => spanC a a u ha ha)
      rw [hi]
      show Calls _ _ _ _ fun e w' => (e = .returned (valB (spanB a a)) ∧ At w' rb v s s1) ∧ Kept (oneBlk rb) w w'
      clear e1 GT hi h h45 hno
      generalize spanB a a = R at GS ⊢
      obtain ⟨r0, r1, r2, r3⟩ := R
      go_enter Tryd.func67, Tryd.ntmps67
      go_wp2_with (first
        | (go_at_call 65; refine (GT1.out _ h1.out).mono ?_; intro e w1 hw1; obtain ⟨he1, hat1, hk1⟩ := hw1.yes; subst he1; have hat1 := hid hat1; have b1 := hid (b0.out.kept hk1 hne))
        | (go_at_call 41; refine (GK.out _ hat1.out).mono ?_; rintro e w2 ⟨rfl, hb2⟩)
        | (go_at_call 52; refine (GS.out _).mono ?_; rintro e w4 ⟨rfl, hb4⟩; have b4 := hid ((b1.out.keep hb2).keep hb4); have hat4 := hid ((hat1.out.keep hb2).keep hb4); obtain ⟨z0, z1, z2, z3, z4, z5, z6, z7⟩ := Blk.cells (sa := 0) (sb := 0) (sc := 0) (sd := 0) b4.out))
      refine bodyPost_ret (v := .agg #[.int .u64 r0, .int .u64 r1, .int .u64 r2, .int .u64 r3]) (by simp [results, Tryd.results67, go_sem, z0, z1, z2, z3]) rfl ⟨⟨rfl, ?_⟩, ?_⟩
      · exact hat4.out.put4 ⟨r0, r1, r2, r3⟩ (by omega)
      · exact kept_put4 (((k0.out.trans hk1).trans (Kept.of_below hb2)).trans (Kept.of_below hb4)) ⟨r0, r1, r2, r3⟩ (fun h => by omega)

end Go.Proofs.YtjiljfmejgiabaaDoor
namespace Go.Proofs.YtjiljfmejgiabaaDoor
open Go.RowKit

theorem eql4 (S T : W4) (w : World) : (binOp .eql 44 (valB S) (valB T)).run Tryd.prog w = .ok (.bool (decide (S = T))) w := by
  obtain ⟨a, b, c, d⟩ := S
  obtain ⟨a', b', c', d'⟩ := T
  rw [run_eql_struct, equal4 9998]
  rfl
theorem neq4 (S T : W4) (w : World) : (binOp .neq 44 (valB S) (valB T)).run Tryd.prog w = .ok (.bool (!decide (S = T))) w := by
  obtain ⟨a, b, c, d⟩ := S
  obtain ⟨a', b', c', d'⟩ := T
  rw [run_neq_struct, equal4 9998]
  rfl


end Go.Proofs.YtjiljfmejgiabaaDoor
