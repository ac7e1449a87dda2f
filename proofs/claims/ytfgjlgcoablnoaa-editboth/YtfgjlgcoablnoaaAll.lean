/- The contracts of edit.All and topiaryref01.Play. -/
import Derived.Test.YtfgjlgcoablnoaaEds
namespace Go.Proofs.Ytfgjlgcoablnoaa
open Go.RowKit

/-- every edit of the list is within bounds -/
def Sane (es : List Ed) : Prop := ∀ e ∈ es, e.a ≤ 9223372036854775807 ∧ e.t.size ≤ 5000

theorem play_go {s : ByteArray} {es : List Ed} {k : Nat} (h : k < es.length) (he : errNo s.size es[k].a es[k].n es[k].t.size = 0) :
    play s (es.drop k) k = play (appS s es[k].t es[k].a es[k].n) (es.drop (k + 1)) (k + 1) := by
  rw [List.drop_eq_getElem_cons h, play, if_pos he]
theorem play_stop {s : ByteArray} {es : List Ed} {k : Nat} (h : k < es.length) (he : errNo s.size es[k].a es[k].n es[k].t.size ≠ 0) :
    play s (es.drop k) k = (s, k, errNo s.size es[k].a es[k].n es[k].t.size) := by
  rw [List.drop_eq_getElem_cons h, play, if_neg he]
theorem play_end {s : ByteArray} {es : List Ed} : play s (es.drop es.length) es.length = (s, es.length, 0) := by
  rw [List.drop_length, play]

def playV (r : ByteArray × Nat × Int) : Value := .tuple #[.string r.1, .int .i64 r.2.1, .int .i64 r.2.2]

set_option maxHeartbeats 1000000 in
theorem all15 (s : ByteArray) (es : List Ed) (ao : Option Addr) (cap : Nat) (w : World) (hs : s.size ≤ 5000) (hl : es.length ≤ 100) (hA : EdsAt w ao es) (hS : Sane es) :
    Calls Try.prog 15 #[.string s, .slice ao es.length cap] w fun e w' => e = .returned (playV (play s es 0)) ∧ Below w.heap.size w w' := by
  have HA := (show Hid _ from hA)
  have HS := (show Hid _ from hS)
  clear hA hS
  go_enter Try.func15, Try.ntmps15
  go_wp2_with (go_at_call 24; refine (clone24 s _ (by omega)).mono ?_; rintro e w1 ⟨rfl, hb⟩)
  go_loopw [7, 16] (fun v i wr => ∃ (k : Nat) (x : ByteArray), v = .string x ∧ i = .int .i64 k ∧ k ≤ es.length ∧ x.size ≤ 5000 ∧ Hid (play s es 0 = play x (es.drop k) k) ∧ Below w.heap.size w wr) (fun _ i _ => es.length - (intOf i).toNat)
  case atStart => exact ⟨0, s, rfl, rfl, Nat.zero_le _, hs, rfl, hb⟩
  case round =>
    obtain ⟨k, x, rfl, rfl, k1, hx, HP, hbl⟩ := hrel
    by_cases hlt : k < es.length
    · obtain ⟨b, off, rfl, hE⟩ := HA.out (by intro e; rw [e] at hlt; exact absurd hlt (Nat.not_lt_zero _))
      have hcs := (hE.keep hbl) k hlt
      obtain ⟨c0, c1, c2⟩ := hcs
      have hsn := HS.out es[k] (List.getElem_mem hlt)
      have G := (show Hid _ from fun w => apply11 x es[k].t es[k].a es[k].n w (by omega) (by omega) hsn.1)
      clear hE hsn
      by_cases he : errNo x.size es[k].a es[k].n es[k].t.size = 0
      · have HP2 := (show Hid _ from HP.out.trans (play_go hlt he))
        have hz := appS_size he
        clear HP
        unfold appV at G
        rw [he] at G
        clear he
        generalize es[k] = e at c0 c1 c2 G HP2 hz
        obtain ⟨ea, en, et⟩ := e
        dsimp only at c0 c1 c2 G HP2 hz
        generalize appS x et ea en = y at G HP2 hz
        go_wp2_with (go_at_call 11; refine (G.out _).mono ?_; rintro e w2 ⟨rfl, hb2⟩)
        go_roundw
        case rel => exact ⟨k + 1, y, rfl, by go_num, by omega, by omega, HP2, bl_step (bl_alloc hbl) hb2⟩
        case measure => simp [intOf]; omega
      · have HP2 := (show Hid _ from HP.out.trans (play_stop hlt he))
        clear HP
        unfold appV at G
        have hne : (errNo x.size es[k].a es[k].n es[k].t.size != 0) = true := by simpa using he
        clear he
        generalize errNo x.size es[k].a es[k].n es[k].t.size = er at G HP2 hne
        generalize es[k] = e at c0 c1 c2 G
        obtain ⟨ea, en, et⟩ := e
        dsimp only at c0 c1 c2 G
        generalize appS x et ea en = y at G
        go_wp2_with (go_at_call 11; refine (G.out _).mono ?_; rintro e w2 ⟨rfl, hb2⟩)
        go_ret3
        exact ⟨by rw [HP2.out]; rfl, bl_step (bl_alloc hbl) hb2⟩
    · obtain rfl : k = es.length := by omega
      have HP2 := (show Hid _ from HP.out.trans play_end)
      clear HP
      go_wp2
      go_ret3
      exact ⟨by rw [HP2.out]; rfl, hbl⟩

def playA (r : ByteArray × Nat × Int) : Value := .agg #[.string r.1, .int .i64 r.2.1, .int .i64 r.2.2]

set_option maxHeartbeats 1000000 in
theorem play16 (s : ByteArray) (es : List Ed) (ao : Option Addr) (cap : Nat) (w : World) (hs : s.size ≤ 5000) (hl : es.length ≤ 100) (hA : EdsAt w ao es) (hS : Sane es) :
    Calls Try.prog 16 #[.string s, .slice ao es.length cap] w fun e w' => e = .returned (playA (play s es 0)) ∧ Below w.heap.size w w' := by
  have HA := (show Hid _ from hA)
  have HS := (show Hid _ from hS)
  clear hA hS
  go_enter Try.func16, Try.ntmps16
  go_wp2
  go_loopw [0, 5] (fun v i wr => ∃ (k : Nat) (x : ByteArray), v = .string x ∧ i = .int .i64 k ∧ k ≤ es.length ∧ x.size ≤ 5000 ∧ Hid (play s es 0 = play x (es.drop k) k) ∧ Below (w.alloc (.cells #[.string ⟨#[]⟩, .int .i64 0, .int .i64 0] 39)).heap.size (w.alloc (.cells #[.string ⟨#[]⟩, .int .i64 0, .int .i64 0] 39)) wr) (fun _ i _ => es.length - (intOf i).toNat)
  case atStart => exact ⟨0, s, rfl, rfl, Nat.zero_le _, hs, rfl, Below.refl _ _⟩
  case round =>
    obtain ⟨k, x, rfl, rfl, k1, hx, HP, hbl⟩ := hrel
    have B1 := keep_blk hbl (heap_alloc_new w _)
    have hbw : Below w.heap.size w wr := bl_step (bl_alloc (Below.refl _ _)) hbl
    by_cases hlt : k < es.length
    · obtain ⟨b, off, rfl, hE⟩ := HA.out (by intro e; rw [e] at hlt; exact absurd hlt (Nat.not_lt_zero _))
      have hcs := (hE.keep hbw) k hlt
      obtain ⟨c0, c1, c2⟩ := hcs
      have hsn := HS.out es[k] (List.getElem_mem hlt)
      have G := (show Hid _ from fun w => refApply12 x es[k].t es[k].a es[k].n w (by omega) (by omega) hsn.1)
      clear hE hsn
      by_cases he : errNo x.size es[k].a es[k].n es[k].t.size = 0
      · have HP2 := (show Hid _ from HP.out.trans (play_go hlt he))
        have hz := appS_size he
        clear HP
        unfold appV at G
        rw [he] at G
        clear he
        generalize es[k] = e at c0 c1 c2 G HP2 hz
        obtain ⟨ea, en, et⟩ := e
        dsimp only at c0 c1 c2 G HP2 hz
        generalize appS x et ea en = y at G HP2 hz
        go_wp2_with (go_at_call 12; refine (G.out _).mono ?_; rintro e w2 ⟨rfl, hb2⟩)
        go_roundw
        case rel => exact ⟨k + 1, y, rfl, by go_num, by omega, by omega, HP2, bl_step hbl hb2⟩
        case measure => simp [intOf]; omega
      · have HP2 := (show Hid _ from HP.out.trans (play_stop hlt he))
        clear HP
        unfold appV at G
        have hne : (errNo x.size es[k].a es[k].n es[k].t.size != 0) = true := by simpa using he
        clear he
        generalize errNo x.size es[k].a es[k].n es[k].t.size = er at G HP2 hne
        generalize es[k] = e at c0 c1 c2 G
        obtain ⟨ea, en, et⟩ := e
        dsimp only at c0 c1 c2 G
        generalize appS x et ea en = y at G
        go_wp2_with (go_at_call 12; refine (G.out _).mono ?_; rintro e w2 ⟨rfl, hb2⟩; have B2 := keep_blk hb2 B1; have m0 := blk_cell B2 (o := 0) rfl; have m1 := blk_cell B2 (o := 1) rfl; have m2 := blk_cell B2 (o := 2) rfl; have r0 := blk_frozen B2 0; have r1 := blk_frozen B2 1; have r2 := blk_frozen B2 2)
        refine bodyPost_ret (v := .agg #[.string x, .int .i64 k, .int .i64 er]) (by simp [results, Try.results16, go_sem, m0, m1, m2]) rfl ⟨by rw [HP2.out]; rfl, ?_⟩
        exact (((bl_step hbw hb2).setCell (Nat.le_refl _) _).setCell (Nat.le_refl _) _).setCell (Nat.le_refl _) _
    · obtain rfl : k = es.length := by omega
      have HP2 := (show Hid _ from HP.out.trans play_end)
      clear HP
      have m0 := blk_cell B1 (o := 0) rfl
      have m1 := blk_cell B1 (o := 1) rfl
      have m2 := blk_cell B1 (o := 2) rfl
      have r0 := blk_frozen B1 0
      have r1 := blk_frozen B1 1
      have r2 := blk_frozen B1 2
      go_wp2
      refine bodyPost_ret (v := .agg #[.string x, .int .i64 es.length, .int .i64 0]) (by simp [results, Try.results16, go_sem, m0, m1, m2]) rfl ⟨by rw [HP2.out]; rfl, ?_⟩
      exact ((hbw.setCell (Nat.le_refl _) _).setCell (Nat.le_refl _) _).setCell (Nat.le_refl _) _

end Go.Proofs.Ytfgjlgcoablnoaa
