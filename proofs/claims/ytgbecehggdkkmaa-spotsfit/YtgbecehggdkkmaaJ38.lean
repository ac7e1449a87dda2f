/- The reader: what it is; ahead, take, next. The reader: ahead, take, next, rowEnds; which signs are plain. -/
import Derived.Test.YtgbecehggdkkmaaJ11
import Derived.WalkLawsBesides
import Derived.Laws.StandIn
import Derived.Lib.Bytealg
import Derived.Deep.RegionHeld3
namespace Go.Proofs.Ytgbecehggdkkmaa
open Go.RowKit

/-- the reader: its text, what is still to be read, its cells -/
def At (w : World) (rb : Nat) (v : Value) (s q : Txt) : Prop := ∃ pre : Txt, s = pre ++ q ∧ w.heap[rb]? = some (.cells #[.string (strT s), .int .i64 (pre.length : Int), v] 81 (0, 0))
theorem At.keep {w w' : World} {rb : Nat} {v : Value} {s q : Txt} (h : At w rb v s q) (hb : Below w.heap.size w w') : At w' rb v s q := by
  obtain ⟨pre, h1, h2⟩ := h
  exact ⟨pre, h1, (hb.block rb (blk_lt h2)).trans h2⟩
theorem rd3 {w : World} {b : Nat} {x0 x1 x2 : Value} {T : TypeId} (h : w.heap[b]? = some (.cells #[x0, x1, x2] T (0, 0))) :
    w.cell? ⟨b, 0, none⟩ = some x0 ∧ w.cell? ⟨b, 1, none⟩ = some x1 ∧ w.cell? ⟨b, 2, none⟩ = some x2 ∧ w.frozen? ⟨b, 1, none⟩ = false ∧ w.frozen? ⟨b, 2, none⟩ = false := ⟨blk_cell h rfl, blk_cell h rfl, blk_cell h rfl, blk_frozen h 1, blk_frozen h 2⟩

set_option maxRecDepth 20000 in
set_option maxHeartbeats 1000000 in
theorem aheadNo (w : World) (rb k : Nat) (v : Value) (S : ByteArray) (z : Int) (_hs : S.size ≤ 1000) (hk : k = S.size) (h : w.heap[rb]? = some (.cells #[.string S, .int .i64 (k : Int), v] 81 (0, 0))) :
    Calls Try.prog 81 #[.pointer (some ⟨rb, 0, none⟩), .int .u8 z] w fun e w' => e = .returned (.bool false) ∧ Below w.heap.size w w' := by
  obtain ⟨c0, c1, c2, c3, c4⟩ := rd3 h
  have hlt : ¬ (k : Int) < (S.size : Int) := by omega
  have hd : decide ((k : Int) < (S.size : Int)) = false := decide_eq_false hlt
  clear h
  go_enter Try.func81, Try.ntmps81
  go_wp2_with fail
  go_quiet (fail)
  go_wp2
  go_ret
  exact ⟨rfl, ⟨rfl, rfl, rfl, Nat.le_refl _, fun _ _ => rfl⟩⟩

set_option maxRecDepth 20000 in
set_option maxHeartbeats 1000000 in
theorem aheadSome (w : World) (rb k : Nat) (v : Value) (S : ByteArray) (z : Int) (_hs : S.size ≤ 1000) (hk : k < S.size) (h : w.heap[rb]? = some (.cells #[.string S, .int .i64 (k : Int), v] 81 (0, 0))) :
    Calls Try.prog 81 #[.pointer (some ⟨rb, 0, none⟩), .int .u8 z] w fun e w' => e = .returned (.bool ((S[k].toNat : Int) == z)) ∧ Below w.heap.size w w' := by
  obtain ⟨c0, c1, c2, c3, c4⟩ := rd3 h
  have hlt : (k : Int) < (S.size : Int) := by omega
  clear h
  go_enter Try.func81, Try.ntmps81
  go_wp2_with fail
  go_quiet (fail)
  go_wp2
  go_ret
  exact ⟨rfl, ⟨rfl, rfl, rfl, Nat.le_refl _, fun _ _ => rfl⟩⟩

end Go.Proofs.Ytgbecehggdkkmaa
namespace Go.Proofs.Ytgbecehggdkkmaa
open Go.RowKit

theorem at_byte {pre r : Txt} {d : UInt8} (h : pre.length < (strT (pre ++ d :: r)).size) : (strT (pre ++ d :: r))[pre.length] = d := by
  exact (strT_at _ _ h (by simp)).trans (by simp)
theorem byte_eq (d c : UInt8) : (((d.toNat : Int)) == (c.toNat : Int)) = (d == c) := by
  rw [Bool.eq_iff_iff, beq_iff_eq, beq_iff_eq]
  constructor
  · intro h; exact UInt8.toNat_inj.1 (by omega)
  · intro h; rw [h]
set_option maxRecDepth 20000 in
theorem aheadC {w : World} {rb : Nat} {v : Value} {s q : Txt} (h : At w rb v s q) (hs : s.length ≤ 200) (c : UInt8) :
    Calls Try.prog 81 #[.pointer (some ⟨rb, 0, none⟩), .int .u8 (c.toNat : Int)] w fun e w' => e = .returned (.bool (q.head? == some c)) ∧ Below w.heap.size w w' := by
  obtain ⟨pre, hp, hb⟩ := h
  have hsz := strT_size s
  cases q with
  | nil => exact aheadNo w rb pre.length v (strT s) _ (by omega) (by rw [hsz, hp]; simp) hb
  | cons d r =>
    have hk : pre.length < (strT s).size := by rw [hsz, hp]; simp
    have := aheadSome w rb pre.length v (strT s) (c.toNat : Int) (by omega) hk hb
    have e : (strT s)[pre.length] = d := by subst hp; exact at_byte hk
    rw [e, byte_eq] at this
    exact this

/-- on by one -/
theorem At.next {w : World} {rb : Nat} {v : Value} {s r : Txt} {d : UInt8} (h : At w rb v s (d :: r)) : ∃ k : Nat, w.cell? ⟨rb, 1, none⟩ = some (.int .i64 (k : Int)) ∧ w.frozen? ⟨rb, 1, none⟩ = false ∧ k < s.length ∧ At (w.setCell ⟨rb, 1, none⟩ (.int .i64 ((k : Int) + 1))) rb v s r := by
  obtain ⟨pre, hp, hb⟩ := h
  obtain ⟨c0, c1, c2, c3, c4⟩ := rd3 hb
  refine ⟨pre.length, c1, c3, by rw [hp]; simp, pre ++ [d], by rw [hp]; simp, ?_⟩
  have := heap_setCell (o := 1) (v := .int .i64 ((pre.length : Int) + 1)) hb
  rw [this]
  simp
theorem set_kept {w : World} {rb o : Nat} {v : Value} : Kept (oneBlk rb) w (w.setCell ⟨rb, o, none⟩ v) := (Kept.refl _ w).setCell (a := ⟨rb, o, none⟩) fun _ => rfl

set_option maxRecDepth 20000 in
theorem takeNo {w : World} {rb : Nat} {v : Value} {s q : Txt} (h : At w rb v s q) (hs : s.length ≤ 200) (c : UInt8) (hc : (q.head? == some c) = false) :
    Calls Try.prog 65 #[.pointer (some ⟨rb, 0, none⟩), .int .u8 (c.toNat : Int)] w fun e w' => e = .returned (.bool false) ∧ Below w.heap.size w w' := by
  have GA := hid (aheadC h hs c)
  rw [hc] at GA
  generalize (c.toNat : Int) = z at GA ⊢
  clear h hc
  go_enter Try.func65, Try.ntmps65
  go_wp2_with (go_at_call 81; refine GA.out.mono ?_; rintro e w1 ⟨rfl, hb1⟩)
  go_ret
  exact ⟨rfl, hb1⟩
set_option maxRecDepth 20000 in
theorem takeYes {w : World} {rb : Nat} {v : Value} {s r : Txt} {c : UInt8} (h : At w rb v s (c :: r)) (hs : s.length ≤ 200) :
    Calls Try.prog 65 #[.pointer (some ⟨rb, 0, none⟩), .int .u8 (c.toNat : Int)] w fun e w' => e = .returned (.bool true) ∧ At w' rb v s r ∧ Kept (oneBlk rb) w w' := by
  have GA := hid (aheadC h hs c)
  rw [show ((c :: r).head? == some c) = true by simp] at GA
  generalize (c.toNat : Int) = z at GA ⊢
  have H := hid (fun u (hb : Below w.heap.size w u) => (h.keep hb).next)
  clear h
  go_enter Try.func65, Try.ntmps65
  go_wp2_with (go_at_call 81; refine GA.out.mono ?_; rintro e w1 ⟨rfl, hb1⟩; obtain ⟨k, c1, c3, hk, hat⟩ := H.out w1 hb1; have hat := hid hat)
  go_ret
  exact ⟨rfl, hat.out, (Kept.of_below hb1).trans set_kept⟩

set_option maxRecDepth 20000 in
theorem nextNo {w : World} {rb : Nat} {v : Value} {s : Txt} (h : At w rb v s []) (_hs : s.length ≤ 200) (p : Int) :
    Calls Try.prog 99 #[.pointer (some ⟨rb, 0, none⟩), .int .i64 p] w fun e w' => e = .panicked [{ v := .iface 79 (.int .i64 p), recovered := false }] ∧ Below w.heap.size w w' := by
  obtain ⟨pre, hp, hb⟩ := h
  obtain ⟨c0, c1, c2, c3, c4⟩ := rd3 hb
  have hsz := strT_size s
  have hk : (strT s).size = pre.length := by rw [hsz, hp]; simp
  have hkk : (((pre.length : Int)) == ((strT s).size : Int)) = true := by rw [hk]; simp
  generalize strT s = S at hk c0 hsz hkk
  generalize pre.length = k at hk c1 hkk
  clear hb hp
  go_enter Try.func99, Try.ntmps99
  go_wp2_with fail
  go_quiet (fail)
  go_wp2
  exact ⟨rfl, rfl, ⟨rfl, rfl, rfl, Nat.le_refl _, fun _ _ => rfl⟩⟩
set_option maxRecDepth 20000 in
theorem nextYes {w : World} {rb : Nat} {v : Value} {s r : Txt} {c : UInt8} (h : At w rb v s (c :: r)) (hs : s.length ≤ 200) (p : Int) :
    Calls Try.prog 99 #[.pointer (some ⟨rb, 0, none⟩), .int .i64 p] w fun e w' => e = .returned (.int .u8 (c.toNat : Int)) ∧ At w' rb v s r ∧ Kept (oneBlk rb) w w' := by
  obtain ⟨pre, hp, hb⟩ := h
  have H : Hid (∀ u, Below w.heap.size w u → At (u.setCell ⟨rb, 1, none⟩ (.int .i64 ((pre.length : Int) + 1))) rb v s r) := hid (fun u hu => by
    refine ⟨pre ++ [c], by rw [hp]; simp, ?_⟩
    rw [heap_setCell (o := 1) (v := .int .i64 ((pre.length : Int) + 1)) ((hu.block rb (blk_lt hb)).trans hb)]
    simp)
  obtain ⟨c0, c1, c2, c3, c4⟩ := rd3 hb
  have hsz := strT_size s
  have hk : pre.length < (strT s).size := by rw [hsz, hp]; simp
  have hch : (strT s)[pre.length].toNat = c.toNat := by subst hp; rw [at_byte hk]
  have hkk : (((pre.length : Int)) == ((strT s).size : Int)) = false := beq_eq_false_iff_ne.2 (by omega)
  generalize (c.toNat) = z at hch ⊢
  generalize strT s = S at hk c0 hsz hkk hch
  generalize pre.length = k at hk c1 hkk hch H
  clear hb hp
  go_enter Try.func99, Try.ntmps99
  go_wp2_with fail
  go_quiet (fail)
  go_wp2_with fail
  go_quiet (fail)
  go_wp2
  go_ret
  have hd : ∀ n, Below w.heap.size w (w.drewN n) := fun n => ⟨rfl, rfl, rfl, Nat.le_refl _, fun _ _ => rfl⟩
  exact ⟨rfl, H.out _ (hd _), (Kept.of_below (hd _)).trans set_kept⟩

set_option maxRecDepth 20000 in
theorem rowEndsNil {w : World} {rb : Nat} {v : Value} {s : Txt} (h : At w rb v s []) (hs : s.length ≤ 200) :
    Calls Try.prog 80 #[.pointer (some ⟨rb, 0, none⟩)] w fun e w' => e = .returned (.bool true) ∧ Below w.heap.size w w' := by
  obtain ⟨pre, hp, hb⟩ := h
  obtain ⟨c0, c1, c2, c3, c4⟩ := rd3 hb
  have hsz := strT_size s
  have hk : (strT s).size = pre.length := by rw [hsz, hp]; simp
  have hle : (strT s).size ≤ 200 := by omega
  generalize strT s = S at hk c0 hsz hle
  rw [← hk] at c1
  clear hb hp hsz hk
  go_enter Try.func80, Try.ntmps80
  go_wp2_with fail
  go_quiet (fail)
  go_wp2
  go_ret
  exact ⟨rfl, ⟨rfl, rfl, rfl, Nat.le_refl _, fun _ _ => rfl⟩⟩

set_option maxRecDepth 20000 in
set_option maxHeartbeats 1000000 in
theorem rowEndsSome {w : World} {rb : Nat} {v : Value} {s r : Txt} {c : UInt8} (h : At w rb v s (c :: r)) (hs : s.length ≤ 200) :
    Calls Try.prog 80 #[.pointer (some ⟨rb, 0, none⟩)] w fun e w' => e = .returned (.bool (rowEnd (c :: r))) ∧ Below w.heap.size w w' := by
  have G1 := hid (fun u (hb : Below w.heap.size w u) => aheadC (h.keep hb) hs 124)
  have G2 := hid (fun u (hb : Below w.heap.size w u) => aheadC (h.keep hb) hs 41)
  have hdr : Below w.heap.size w w.drew := (Below.refl _ w).drew
  rw [show rowEnd (c :: r) = (((c :: r).head? == some 124) || ((c :: r).head? == some 41)) from rfl]
  obtain ⟨pre, hp, hb⟩ := h
  obtain ⟨c0, c1, c2, c3, c4⟩ := rd3 hb
  have hsz := strT_size s
  have hlt : pre.length < (strT s).size := by rw [hsz, hp]; simp
  have hle : (strT s).size ≤ 200 := by omega
  have hkk : (((pre.length : Int)) == ((strT s).size : Int)) = false := beq_eq_false_iff_ne.2 (by omega)
  generalize strT s = S at c0 hsz hle hlt hkk
  generalize pre.length = k at c1 hlt hkk
  generalize ((c :: r).head? == some 124) = b1 at G1 ⊢
  generalize ((c :: r).head? == some 41) = b2 at G2 ⊢
  clear hb hp hsz
  cases b1
  · go_enter Try.func80, Try.ntmps80
    go_wp2_with fail
    go_region_held3 (fun w' => w'.cell? ⟨rb, 0, none⟩ = some (.string S) ∧ w'.cell? ⟨rb, 1, none⟩ = some (.int .i64 (k : Int))) (go_keep) ((first
      | (go_at_call_of 81 (Value.int .u8 124); refine (G1.out _ hdr).mono ?_; rintro e w1 ⟨rfl, hb1'⟩; have hb1 := bl_step hdr hb1'; have := keep_cell hb1 c0; have := keep_cell hb1 c1)
      | (go_at_call_of 81 (Value.int .u8 41); refine (G2.out _ hb1).mono ?_; rintro e w2 ⟨rfl, hb2'⟩; have hb2 := bl_step hb1 hb2'; have := keep_cell hb2 c0; have := keep_cell hb2 c1)))
    all_goals
      go_wp2
      go_ret
      exact ⟨by cases b2 <;> rfl, hb2⟩
  · go_enter Try.func80, Try.ntmps80
    go_wp2_with fail
    first | (go_region_with (first
      | (go_at_call 81; refine (G1.out _ hdr).mono ?_; rintro e w1 ⟨rfl, hb1'⟩; have hb1 := bl_step hdr hb1'; have := keep_cell hb1 c0; have := keep_cell hb1 c1)
      | fail)) | fail
    all_goals
      go_wp2
      go_ret
      exact ⟨rfl, hb1⟩

set_option maxRecDepth 20000 in
theorem rowEndsC {w : World} {rb : Nat} {v : Value} {s q : Txt} (h : At w rb v s q) (hs : s.length ≤ 200) :
    Calls Try.prog 80 #[.pointer (some ⟨rb, 0, none⟩)] w fun e w' => e = .returned (.bool (rowEnd q)) ∧ Below w.heap.size w w' := by
  cases q with
  | nil => exact rowEndsNil h hs
  | cons c r => exact rowEndsSome h hs

end Go.Proofs.Ytgbecehggdkkmaa
