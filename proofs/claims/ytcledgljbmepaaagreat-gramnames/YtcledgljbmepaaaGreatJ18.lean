/- (*gram.index).fill. sync.Once, one goroutine: Do with (*gram.index).fill; find. The reader when all is read: levels, productions, the map; find. (*gram.index).find. -/
import Derived.Test.YtcledgljbmepaaaGreatJ17
import Derived.Tactics
import Derived.Tactics2
import Derived.Defers
import Derived.Laws.Pointers
import Derived.Laws.LoneSync
import Derived.RegionTactic
import Derived.RegionCalls
import Derived.ChangeAlike
namespace Go.Proofs.YtcledgljbmepaaaGreat
open Go.RowKit Go.Maps Go.Sort

/-- a row of words, apart from block rb -/
def WRow (w : World) (rb : Nat) (v : Value) (l : List Wd) : Prop := ∃ a cap, v = .slice a l.length cap ∧ ∀ j (h : j < l.length), ∃ b o, a = some ⟨b, o, none⟩ ∧ b ≠ rb ∧ b < w.heap.size ∧ Wd3 w b (o + j * 3) l[j]
theorem WRow.at {w u : World} {rb : Nat} {a : Option Addr} {n cap : Nat} {l : List Wd} (h : WRow w rb (.slice a n cap) l) (hk : Kept (oneBlk rb) w u) {j : Nat} (hj : j < l.length) : ∃ b o, a = some ⟨b, o, none⟩ ∧ Wd3 u b (o + j * 3) l[j] := by
  obtain ⟨a', cap', e, hat⟩ := h
  injection e with e1 _ _
  subst e1
  obtain ⟨b, o, e2, h1, h2, x0, x1, x2⟩ := hat j hj
  exact ⟨b, o, e2, hk.cell x0 h2 h1, hk.cell x1 h2 h1, hk.cell x2 h2 h1⟩
theorem WRow.shape {w : World} {rb : Nat} {v : Value} {l : List Wd} (h : WRow w rb v l) : ∃ a cap, v = .slice a l.length cap := by
  obtain ⟨a, cap, e, _⟩ := h
  exact ⟨a, cap, e⟩
theorem OwnI.wrow {w : World} {B i rb _n : Nat} {T : Nat → Nat} {te : TypeId} {v : Value} {l : List Wd} (h : OwnI w B T i te 3 v l.length (l.flatMap wdV)) (hr : T rb = 99) (hi : i ≠ 99) : WRow w rb v l := by
  obtain ⟨a, cap, e, hc, hn, hat⟩ := own_at (sz := 3) (cs := wdV) (fun _ => rfl) (by decide) h.1
  refine ⟨a, cap, e, fun j hj => ?_⟩
  obtain ⟨b, o, e1, h1, h2⟩ := hat j hj
  refine ⟨b, o, e1, fun e9 => ?_, h1, h2 0 (by decide), h2 1 (by decide), h2 2 (by decide)⟩
  have h3 : v.ownBlock = some b := by rw [e, e1]; rfl
  have h4 := h.2 b h3
  rw [e9, hr] at h4
  exact hi h4.symm
set_option maxRecDepth 20000 in
theorem ownC' {rb m n : Nat} {w : World} {M : Txt → Option Ow} (x : Wd) (t k : Nat) (tz kz : Int) (h1 : tz = (t : Int)) (h2 : kz = (k : Int)) (hx : x.2.2.length ≤ 1000000) (hn : n ≤ 1000000) (hrb : w.cell? ⟨rb, 14, none⟩ = some (.map (some m))) (hM : OwnMp w m n M) :
    Calls Tryz.prog 70 #[.pointer (some ⟨rb, 8, none⟩), wdA x, .agg #[.int .i64 0, .int .i64 tz, .int .i64 kz]] w fun r w' => r = .returned (.tuple #[]) ∧ OwnMp w' m (n + 1) (ownM M x t k) ∧ Kept (oneBlk m) w w' := by
  subst h1 h2
  exact ownC x t k hx hn hrb hM
theorem numF_drop (l : List Wd) : ∀ (k j : Nat) (h : k < l.length), numF (j + k) (l.drop k) = (l[k], j + k + 1, 0) :: numF (j + (k + 1)) (l.drop (k + 1)) := fun k j h => by
  rw [List.drop_eq_getElem_cons h, numF]
  rfl
theorem numN_drop (l : List Wd) : ∀ (k j : Nat) (h : k < l.length), numN (j + k) (l.drop k) = (l[k], 0, j + k + 1) :: numN (j + (k + 1)) (l.drop (k + 1)) := fun k j h => by
  rw [List.drop_eq_getElem_cons h, numN]
  rfl
abbrev rdF (c : Nat → Value) (mp : Value) : Obj := .cells #[c 0, c 1, c 2, c 3, c 4, c 5, c 6, c 7, c 8, c 9, c 10, c 11, c 12, c 13, mp, c 15, c 16, c 17] 70
theorem cellF {w : World} {rb : Nat} {c : Nat → Value} {mp : Value} (h : w.heap[rb]? = some (rdF c mp)) : w.cell? ⟨rb, 8, none⟩ = some (c 8) ∧ w.cell? ⟨rb, 9, none⟩ = some (c 9) ∧ w.cell? ⟨rb, 10, none⟩ = some (c 10) ∧ w.cell? ⟨rb, 14, none⟩ = some mp := ⟨blk_cell h rfl, blk_cell h rfl, blk_cell h rfl, blk_cell h rfl⟩
set_option maxRecDepth 20000 in
set_option maxHeartbeats 16000000 in
theorem fillC {rb : Nat} {w : World} {c : Nat → Value} {mp : Value} (sk te no : List Wd) (hb : w.heap[rb]? = some (rdF c mp)) (r1 : WRow w rb (c 8) sk) (r2 : WRow w rb (c 9) te) (r3 : WRow w rb (c 10) no) (l1 : sk.length ≤ 90000) (l2 : te.length ≤ 90000) (l3 : no.length ≤ 90000)
    (x1 : ∀ x ∈ sk, x.2.2.length ≤ 1000000) (x2 : ∀ x ∈ te, x.2.2.length ≤ 1000000) (x3 : ∀ x ∈ no, x.2.2.length ≤ 1000000) :
    Calls Tryz.prog 60 #[.pointer (some ⟨rb, 8, none⟩)] w fun r w' => r = .returned (.tuple #[]) ∧ w'.heap[rb]? = some (rdF c (.map (some w.heap.size))) ∧ (∃ n, OwnMp w' w.heap.size n (ownL (sk.map (fun w => (w, 0, 0)) ++ (numF 0 te ++ numN te.length no)) (fun _ => none))) ∧ Kept (oneBlk rb) w w' ∧ w.heap.size < w'.heap.size := by
  have hrb := blk_lt hb
  obtain ⟨M1, hM1⟩ : ∃ M, Hid (ownL ((sk.drop 0).map (fun w => (w, 0, 0))) (fun _ => none) = M) := ⟨_, hid rfl⟩
  obtain ⟨M2, hM2⟩ : ∃ M, Hid (ownL (numF (0 + 0) (te.drop 0)) M1 = M) := ⟨_, hid rfl⟩
  obtain ⟨M3, hM3⟩ : ∃ M, Hid (ownL (numN (te.length + 0) (no.drop 0)) M2 = M) := ⟨_, hid rfl⟩
  have hfin : ownL (sk.map (fun w => (w, 0, 0)) ++ (numF 0 te ++ numN te.length no)) (fun _ => none) = M3 := by
    rw [← hM3.out, ← hM2.out, ← hM1.out]
    unfold ownL
    rw [List.foldl_append, List.foldl_append]
    rfl
  rw [hfin]
  clear hfin
  obtain ⟨sa, sc, hsk⟩ := r1.shape
  obtain ⟨ta, tc, hte⟩ := r2.shape
  obtain ⟨na, nc, hno⟩ := r3.shape
  rw [hsk] at r1
  rw [hte] at r2
  rw [hno] at r3
  have hmm : ∀ u : World, (Instr.makeMap 65 none).run Tryz.prog u = .ok (.map (some u.heap.size)) (u.alloc (.map #[] 0)) := fun u => by
    simp [Instr.makeMap, Result.andThen]
    first | rfl | skip
  have hal := al' w (.map #[] 0)
  have hb1 := hs_keep hb hal
  have f14 : (w.alloc (.map #[] 0)).frozen? ⟨rb, 14, none⟩ = false := blk_frozen hb1 14
  have g14 : (w.alloc (.map #[] 0)).cell? ⟨rb, 14, none⟩ = some mp := blk_cell hb1 rfl
  have hb2 := heap_setCell (o := 14) (v := .map (some w.heap.size)) hb
  have hb3 : ((w.setCell ⟨rb, 14, none⟩ (.map (some w.heap.size))).alloc (.map #[] 0)).heap[rb]? = some (rdF c (.map (some w.heap.size))) := hs_keep hb2 (al' _ _)
  have hsz : (w.setCell ⟨rb, 14, none⟩ (.map (some w.heap.size))).heap.size = w.heap.size := by simp
  have hmd : OwnMp ((w.setCell ⟨rb, 14, none⟩ (.map (some w.heap.size))).alloc (.map #[] 0)) w.heap.size 0 (fun _ => none) := by
    have := OwnMp.made (w.setCell ⟨rb, 14, none⟩ (.map (some w.heap.size)))
    rw [hsz] at this
    exact this
  have hk3 : Kept (oneBlk rb) w ((w.setCell ⟨rb, 14, none⟩ (.map (some w.heap.size))).alloc (.map #[] 0)) := ((Kept.refl (oneBlk rb) w).setCell (a := ⟨rb, 14, none⟩) (fun _ => rfl)).step (Kept.of_below (al' _ _) (F := oneBlk rb)) (fun _ _ h => h)
  have hs3 : w.heap.size < ((w.setCell ⟨rb, 14, none⟩ (.map (some w.heap.size))).alloc (.map #[] 0)).heap.size := by rw [World.size_alloc, hsz]; omega
  have HI : Hid (((w.setCell ⟨rb, 14, none⟩ (.map (some w.heap.size))).alloc (.map #[] 0)).heap[rb]? = some (rdF c (.map (some w.heap.size))) ∧ OwnMp ((w.setCell ⟨rb, 14, none⟩ (.map (some w.heap.size))).alloc (.map #[] 0)) w.heap.size 0 (fun _ => none) ∧ Kept (oneBlk rb) w ((w.setCell ⟨rb, 14, none⟩ (.map (some w.heap.size))).alloc (.map #[] 0)) ∧ w.heap.size < ((w.setCell ⟨rb, 14, none⟩ (.map (some w.heap.size))).alloc (.map #[] 0)).heap.size) := hid ⟨hb3, hmd, hk3, hs3⟩
  obtain ⟨y8, y9, y10, -⟩ := cellF hb3
  rw [hsk] at y8
  have r1 := hid r1
  have r2 := hid r2
  have r3 := hid r3
  have x1 := hid x1
  have x2 := hid x2
  have x3 := hid x3
  have hskH := hid hsk
  have hteH := hid hte
  have hnoH := hid hno
  have hRW : Hid (∀ u v, u.heap[rb]? = some (rdF c (.map (some w.heap.size))) ∧ Kept (oneBlk rb) w u ∧ w.heap.size < u.heap.size → Kept (oneBlk w.heap.size) u v → v.heap[rb]? = some (rdF c (.map (some w.heap.size))) ∧ Kept (oneBlk rb) w v ∧ w.heap.size < v.heap.size) := hid (fun u v ⟨a1, a2, a3⟩ hk => ⟨hk.blk a1 (fun e => by have : rb = w.heap.size := e; omega), a2.step hk (fun k hk9 e => absurd hk9 (by rw [show k = w.heap.size from e]; omega)), Nat.lt_of_lt_of_le a3 hk.size⟩)
  clear hb hb1 hb2 hb3 hmd hk3 hs3 hal hsk hte hno
  go_enter Tryz.func60, Tryz.ntmps60
  go_wp2_with fail
  generalize (w.setCell ⟨rb, 14, none⟩ (.map (some w.heap.size))).alloc (.map #[] 0) = V0 at *
  go_loopw [17] (fun i wr => ∃ (k n : Nat) (M : Txt → Option Ow), k ≤ sk.length ∧ i = .int .i64 (k : Int) ∧ n ≤ 0 + k ∧ Hid (OwnMp wr w.heap.size n M) ∧ Hid (wr.heap[rb]? = some (rdF c (.map (some w.heap.size))) ∧ Kept (oneBlk rb) w wr ∧ w.heap.size < wr.heap.size) ∧ Hid (ownL ((sk.drop k).map (fun w => (w, 0, 0))) M = M1)) (fun i _ => sk.length - (intOf i).toNat)
  case atStart => exact ⟨0, 0, _, Nat.zero_le _, rfl, Nat.le_refl _, hid HI.out.2.1, hid ⟨HI.out.1, HI.out.2.2⟩, hM1⟩
  case round =>
    obtain ⟨k, n, M, hkl, rfl, hnl, hO, hW, hL⟩ := hrel
    obtain ⟨y8, y9, y10, y14⟩ := cellF hW.out.1
    rw [hskH.out] at y8
    by_cases hlt : k < sk.length
    · have hltz : (k : Int) < (sk.length : Int) := by omega
      obtain ⟨b, o, he, q0, q1, q2⟩ := r1.out.at hW.out.2.1 hlt
      subst he
      have hxl := x1.out _ (List.getElem_mem hlt)
      have e9 := hL.out
      rw [List.drop_eq_getElem_cons hlt, List.map_cons] at e9
      have e9 := hid e9
      generalize sk[k] = x at *
      have hal := al' wr (boxW x)
      have hO1 : OwnMp (wr.alloc (boxW x)) w.heap.size n M := hO.out.keep (F := fun _ => False) (Kept.of_below hal) id
      have hW1 := hRW.out _ _ hW.out (Kept.of_below hal)
      obtain ⟨z8, z9, z10, z14⟩ := cellF hW1.1
      obtain ⟨v0, v1, v2, -, -⟩ := rd3 (heap_new wr (boxW x))
      obtain ⟨W1, hW1e⟩ : ∃ y, wr.alloc (boxW x) = y := ⟨_, rfl⟩
      rw [hW1e] at hO1 hW1 z8 z9 z10 z14 v0 v1 v2 hal
      have GO := hid (ownC' x 0 0 (0) (0) (by rfl) (by rfl) hxl (by omega) z14 hO1)
      have hW1 := hid hW1
      clear hO1 hO hW hL y8 y9 y10
      obtain ⟨xk, xp, xt⟩ := x
      try dsimp only at *
      go_wp2_with (go_at_call 70; refine GO.out.mono ?_; rintro e u4 ⟨rfl, hO4, hk4⟩; have hO4 := hid hO4; have hW4 := hid (hRW.out _ _ hW1.out hk4))
      go_roundw
      case rel => exact ⟨k + 1, n + 1, _, by omega, by go_num, by omega, hO4, hW4, e9⟩
      case measure => simp [intOf]; omega
    · have hltz : ¬ (k : Int) < (sk.length : Int) := by omega
      obtain rfl : k = sk.length := by omega
      have e9 := hL.out
      rw [List.drop_length] at e9
      have e9 : M = M1 := e9
      subst e9
      rw [hteH.out] at y9
      have hn1 : n ≤ 90000 := by omega
      generalize n = n1 at *
      clear hltz hlt hkl hL
      go_wp2_with fail
      clear y8 y9 y10 y14
      go_loopw [31] (fun i wr => ∃ (k n : Nat) (M : Txt → Option Ow), k ≤ te.length ∧ i = .int .i64 (k : Int) ∧ n ≤ n1 + k ∧ Hid (OwnMp wr w.heap.size n M) ∧ Hid (wr.heap[rb]? = some (rdF c (.map (some w.heap.size))) ∧ Kept (oneBlk rb) w wr ∧ w.heap.size < wr.heap.size) ∧ Hid (ownL (numF (0 + k) (te.drop k)) M = M2)) (fun i _ => te.length - (intOf i).toNat)
      case atStart => exact ⟨0, n1, _, Nat.zero_le _, rfl, Nat.le_refl _, hO, hW, hM2⟩
      case round =>
        obtain ⟨k, n, M, hkl, rfl, hnl, hO, hW, hL⟩ := hrel
        obtain ⟨y8, y9, y10, y14⟩ := cellF hW.out.1
        rw [hteH.out] at y9
        by_cases hlt : k < te.length
        · have hltz : (k : Int) < (te.length : Int) := by omega
          obtain ⟨b, o, he, q0, q1, q2⟩ := r2.out.at hW.out.2.1 hlt
          subst he
          have hxl := x2.out _ (List.getElem_mem hlt)
          have e9 := hL.out
          rw [numF_drop te k 0 hlt] at e9
          have e9 := hid e9
          generalize te[k] = x at *
          have hal := al' wr (boxW x)
          have hO1 : OwnMp (wr.alloc (boxW x)) w.heap.size n M := hO.out.keep (F := fun _ => False) (Kept.of_below hal) id
          have hW1 := hRW.out _ _ hW.out (Kept.of_below hal)
          obtain ⟨z8, z9, z10, z14⟩ := cellF hW1.1
          obtain ⟨v0, v1, v2, -, -⟩ := rd3 (heap_new wr (boxW x))
          obtain ⟨W1, hW1e⟩ : ∃ y, wr.alloc (boxW x) = y := ⟨_, rfl⟩
          rw [hW1e] at hO1 hW1 z8 z9 z10 z14 v0 v1 v2 hal
          have GO := hid (ownC' x (0 + k + 1) 0 ((k : Int) + 1) (0) (by omega) (by rfl) hxl (by omega) z14 hO1)
          have hW1 := hid hW1
          clear hO1 hO hW hL y8 y9 y10
          obtain ⟨xk, xp, xt⟩ := x
          try dsimp only at *
          go_wp2_with (go_at_call 70; refine GO.out.mono ?_; rintro e u4 ⟨rfl, hO4, hk4⟩; have hO4 := hid hO4; have hW4 := hid (hRW.out _ _ hW1.out hk4))
          go_roundw
          case rel => exact ⟨k + 1, n + 1, _, by omega, by go_num, by omega, hO4, hW4, e9⟩
          case measure => simp [intOf]; omega
        · have hltz : ¬ (k : Int) < (te.length : Int) := by omega
          obtain rfl : k = te.length := by omega
          have e9 := hL.out
          rw [List.drop_length] at e9
          have e9 : M = M2 := e9
          subst e9
          rw [hnoH.out] at y10
          have hn2 : n ≤ 180000 := by omega
          generalize n = n2 at *
          clear hltz hlt hkl hL
          go_wp2_with fail
          clear y8 y9 y10 y14
          go_loopw [48] (fun i wr => ∃ (k n : Nat) (M : Txt → Option Ow), k ≤ no.length ∧ i = .int .i64 (k : Int) ∧ n ≤ n2 + k ∧ Hid (OwnMp wr w.heap.size n M) ∧ Hid (wr.heap[rb]? = some (rdF c (.map (some w.heap.size))) ∧ Kept (oneBlk rb) w wr ∧ w.heap.size < wr.heap.size) ∧ Hid (ownL (numN (te.length + k) (no.drop k)) M = M3)) (fun i _ => no.length - (intOf i).toNat)
          case atStart => exact ⟨0, n2, _, Nat.zero_le _, rfl, Nat.le_refl _, hO, hW, hM3⟩
          case round =>
            obtain ⟨k, n, M, hkl, rfl, hnl, hO, hW, hL⟩ := hrel
            obtain ⟨y8, y9, y10, y14⟩ := cellF hW.out.1
            rw [hnoH.out] at y10
            by_cases hlt : k < no.length
            · have hltz : (k : Int) < (no.length : Int) := by omega
              obtain ⟨b, o, he, q0, q1, q2⟩ := r3.out.at hW.out.2.1 hlt
              subst he
              have hxl := x3.out _ (List.getElem_mem hlt)
              have e9 := hL.out
              rw [numN_drop no k te.length hlt] at e9
              have e9 := hid e9
              generalize no[k] = x at *
              have hal := al' wr (boxW x)
              have hO1 : OwnMp (wr.alloc (boxW x)) w.heap.size n M := hO.out.keep (F := fun _ => False) (Kept.of_below hal) id
              have hW1 := hRW.out _ _ hW.out (Kept.of_below hal)
              obtain ⟨z8, z9, z10, z14⟩ := cellF hW1.1
              obtain ⟨v0, v1, v2, -, -⟩ := rd3 (heap_new wr (boxW x))
              obtain ⟨W1, hW1e⟩ : ∃ y, wr.alloc (boxW x) = y := ⟨_, rfl⟩
              rw [hW1e] at hO1 hW1 z8 z9 z10 z14 v0 v1 v2 hal
              have hbd : Below W1.heap.size W1 W1.drew := (Below.refl _ W1).drew
              have hO2 : OwnMp W1.drew w.heap.size n M := hO1.keep (F := fun _ => False) (Kept.of_below hbd) id
              have hW2 := hRW.out _ _ hW1 (Kept.of_below hbd)
              have d14 := keep_cell hbd z14
              have d9 := keep_cell hbd z9
              rw [hteH.out] at d9
              have dv0 := keep_cell hbd v0
              have dv1 := keep_cell hbd v1
              have dv2 := keep_cell hbd v2
              have hbx := World.block_lt_of_cell? _ _ dv2
              have hnx : ¬ oneBlk w.heap.size wr.heap.size := fun e => by have h9 := hW.out.2.2; rw [show wr.heap.size = w.heap.size from e] at h9; exact absurd h9 (Nat.lt_irrefl _)
              have GO := hid (ownC' x 0 (te.length + k + 1) (0) (IntKind.i64.wrap (IntKind.i64.wrap ((te.length : Int) + (k : Int)) + 1)) (by rfl) (by rw [IntWalk.i64_in ((te.length : Int) + (k : Int)) (by omega), IntWalk.i64_in _ (by omega)]; omega) hxl (by omega) d14 hO2)
              have hW1 := hid hW2
              clear hO1 hO2 hO hW hL y8 y9 y10 hW2 hbd
              obtain ⟨xk, xp, xt⟩ := x
              try dsimp only at *
              go_wp2_with fail
              go_region_held3 (fun w' => w'.cell? ⟨rb, 9, none⟩ = some (.slice ta te.length tc) ∧ w'.cell? ⟨wr.heap.size, 0, none⟩ = some (.int .i64 (xk : Int)) ∧ w'.cell? ⟨wr.heap.size, 1, none⟩ = some (.int .i64 (xp : Int)) ∧ w'.cell? ⟨wr.heap.size, 2, none⟩ = some (.string (strT xt))) (go_keep) ((go_at_call 70; refine GO.out.mono ?_; rintro e u4 ⟨rfl, hO4, hk4⟩; have hO4 := hid hO4; have hW4 := hid (hRW.out _ _ hW1.out hk4); obtain ⟨-, s9, -, -⟩ := cellF hW4.out.1; rw [hteH.out] at s9; have s0 := hk4.cell dv0 hbx hnx; have s1 := hk4.cell dv1 hbx hnx; have s2 := hk4.cell dv2 hbx hnx))
              all_goals
                go_wp2
                go_roundw
                case rel => exact ⟨k + 1, n + 1, _, by omega, by go_num, by omega, hO4, hW4, e9⟩
                case measure => simp [intOf]; omega
            · have hltz : ¬ (k : Int) < (no.length : Int) := by omega
              obtain rfl : k = no.length := by omega
              have e9 := hL.out
              rw [List.drop_length] at e9
              have e9 : M = M3 := e9
              subst e9
              have hQ := hid hW.out
              clear y8 y9 y10 y14
              go_wp2
              go_end0
              exact ⟨rfl, hW.out.1, ⟨n, hO.out⟩, hW.out.2.1, hW.out.2.2⟩

end Go.Proofs.YtcledgljbmepaaaGreat
namespace Go.Proofs.YtcledgljbmepaaaGreat
open Go.RowKit Go.Maps

set_option maxRecDepth 20000 in
theorem disable (w : World) : (callFunc 90 #[]).run Tryz.prog w = .ok (.value (.tuple #[])) w := run_call_mark0 Tryz.func90 (by kernel_rfl) (by kernel_rfl) (by kernel_rfl) .disable (by kernel_rfl) w
set_option maxRecDepth 20000 in
theorem enable (w : World) : (callFunc 92 #[]).run Tryz.prog w = .ok (.value (.tuple #[])) w := run_call_mark0 Tryz.func92 (by kernel_rfl) (by kernel_rfl) (by kernel_rfl) .enable (by kernel_rfl) w
set_option maxRecDepth 20000 in
theorem acquire (a : Addr) (w : World) : (callFunc 93 #[.pointer (some a)]).run Tryz.prog w = .ok (.value (.tuple #[])) w := run_call_marked Tryz.func93 (by kernel_rfl) (by kernel_rfl) (by kernel_rfl) .acquire (by kernel_rfl) a w
set_option maxRecDepth 20000 in
theorem releaseMerge (a : Addr) (w : World) : (callFunc 95 #[.pointer (some a)]).run Tryz.prog w = .ok (.value (.tuple #[])) w := run_call_marked Tryz.func95 (by kernel_rfl) (by kernel_rfl) (by kernel_rfl) .releaseMerge (by kernel_rfl) a w
set_option maxRecDepth 20000 in
/-- '(*sync/atomic.Bool).Store(true)', entered as a deferred call: the cell holds 1. -/
theorem store_deferred (a : Addr) (x : Value) (u : FrameMode) (w : World) (hc : w.cell? a = some x) (hz : w.frozen? a = false) :
    CallsD Tryz.prog 79 #[.pointer (some a), .bool true] u w fun e u' w' => u' = u ∧ (e = .returned (.tuple #[]) ∧ w' = w.drew.setCell a (.int .u32 1)) := by
  have hc' : w.drew.cell? a = some x := by go_simp
  have hz' : w.drew.frozen? a = false := by go_simp
  have hst := run_call_store (P := Tryz.prog) Tryz.func85 (by kernel_rfl) (by kernel_rfl) (by kernel_rfl) (by kernel_rfl) (k := .u32) (y := 1) hc' hz'
  go_enter_d Tryz.func79, Tryz.ntmps79
  go_wp2
  go_region_calls
  all_goals (go_end0; exact ⟨rfl, rfl⟩)
set_option maxRecDepth 100000 in
set_option maxHeartbeats 1600000 in
theorem unlock_deferred (a : Addr) (u : FrameMode) (w : World) (hc : w.cell? a = some (.int .i32 1)) (hz : w.frozen? a = false) :
    CallsD Tryz.prog 78 #[.pointer (some a)] u w fun e u' w' => u' = u ∧ (e = .returned (.tuple #[]) ∧ w' = w.setCell a (.int .i32 0)) := by
  have hd := disable
  have he := enable
  have hr := releaseMerge
  have hadd := run_call_add (P := Tryz.prog) Tryz.func96 (by kernel_rfl) (by kernel_rfl) (by kernel_rfl) .i32 (by kernel_rfl) (y := -1) (s := 0) hc hz (by simp [go_sem]; rfl)
  have hcv := run_convert_to_unsafe (P := Tryz.prog) (src := 129) (dst := 133) Tryz.underlying129 Tryz.underlying133 (by kernel_rfl) hc
  go_enter_d Tryz.func78, Tryz.ntmps78
  go_wp2
  go_end0
  go_wp2
  go_end0
  exact ⟨rfl, rfl⟩
set_option maxRecDepth 100000 in
set_option maxHeartbeats 1600000 in
theorem lock_free (a : Addr) (w : World) (hc : w.cell? a = some (.int .i32 0)) (hz : w.frozen? a = false) :
    Calls Tryz.prog 77 #[.pointer (some a)] w fun e w' => e = .returned (.tuple #[]) ∧ w' = w.setCell a (.int .i32 1) := by
  have hd := disable
  have he := enable
  have ha := acquire
  have hcas := run_call_cas_hit (P := Tryz.prog) Tryz.func91 (by kernel_rfl) (by kernel_rfl) (by kernel_rfl) .i32 (by kernel_rfl) (y := 1) hc hz
  have hc' : (w.setCell a (.int .i32 1)).cell? a = some (.int .i32 1) := World.cell?_setCell_same w a _ hc
  have hcv := run_convert_to_unsafe (P := Tryz.prog) (src := 129) (dst := 133) Tryz.underlying129 Tryz.underlying133 (by kernel_rfl) hc'
  go_enter Tryz.func77, Tryz.ntmps77
  go_wp2
  first | go_end0 | (simp only [Exit.inBlock, Exit.then]; refine bodyPost_ret (results_none rfl _ _ _) rfl ?_) | refine bodyPost_ret (results_none rfl _ _ _) rfl ?_
  go_wp2
  go_end0
  exact ⟨rfl, rfl⟩
theorem size_sc (w : World) (a : Addr) (v : Value) : (w.setCell a v).heap.size = w.heap.size := by simp
abbrev fillV (rb : Nat) : Value := .func (.func 60) #[.pointer (some ⟨rb, 8, none⟩)] #[]
/-- the reader's block, with the once's cells and the map -/
abbrev rdK (c : Nat → Value) (d l : Value) (mp : Value) : Obj := .cells #[c 0, c 1, c 2, c 3, c 4, c 5, c 6, c 7, c 8, c 9, c 10, d, l, .int .u32 0, mp, c 15, c 16, c 17] 70
theorem WRow.set {w : World} {rb o : Nat} {v x : Value} {l : List Wd} (h : WRow w rb v l) : WRow (w.setCell ⟨rb, o, none⟩ x) rb v l := by
  obtain ⟨a, cap, e, hat⟩ := h
  refine ⟨a, cap, e, fun j hj => ?_⟩
  obtain ⟨b, o', e2, h1, h2, x0, x1, x2⟩ := hat j hj
  have hk : Kept (oneBlk rb) w (w.setCell ⟨rb, o, none⟩ x) := (Kept.refl (oneBlk rb) w).setCell (a := ⟨rb, o, none⟩) (fun _ => rfl)
  exact ⟨b, o', e2, h1, by rw [size_sc]; exact h2, hk.cell x0 h2 h1, hk.cell x1 h2 h1, hk.cell x2 h2 h1⟩
set_option maxRecDepth 100000 in
set_option maxHeartbeats 4000000 in
theorem slowC {rb : Nat} {w : World} {c : Nat → Value} (sk te no : List Wd) (hb : w.heap[rb]? = some (rdK c (.int .u32 0) (.int .i32 0) (.map none))) (r1 : WRow w rb (c 8) sk) (r2 : WRow w rb (c 9) te) (r3 : WRow w rb (c 10) no) (l1 : sk.length ≤ 90000) (l2 : te.length ≤ 90000) (l3 : no.length ≤ 90000)
    (x1 : ∀ x ∈ sk, x.2.2.length ≤ 1000000) (x2 : ∀ x ∈ te, x.2.2.length ≤ 1000000) (x3 : ∀ x ∈ no, x.2.2.length ≤ 1000000) :
    Calls Tryz.prog 69 #[.pointer (some ⟨rb, 11, none⟩), fillV rb] w fun r w' => r = .returned (.tuple #[]) ∧ w'.heap[rb]? = some (rdK c (.int .u32 1) (.int .i32 0) (.map (some w.heap.size))) ∧ (∃ n, OwnMp w' w.heap.size n (ownL (sk.map (fun w => (w, 0, 0)) ++ (numF 0 te ++ numN te.length no)) (fun _ => none))) ∧ Kept (oneBlk rb) w w' ∧ w.heap.size < w'.heap.size := by
  have hrb := blk_lt hb
  have hb1 : (w.setCell ⟨rb, 12, none⟩ (.int .i32 1)).heap[rb]? = some (rdK c (.int .u32 0) (.int .i32 1) (.map none)) := heap_setCell hb
  have G0 := fillC (w := w.setCell ⟨rb, 12, none⟩ (.int .i32 1)) (c := fun i => if i = 11 then .int .u32 0 else if i = 12 then .int .i32 1 else if i = 13 then .int .u32 0 else c i) (mp := .map none) sk te no (by rw [hb1]; rfl) r1.set r2.set r3.set l1 l2 l3 x1 x2 x3
  rw [size_sc] at G0
  have hk1 : Kept (oneBlk rb) w (w.setCell ⟨rb, 12, none⟩ (.int .i32 1)) := (Kept.refl (oneBlk rb) w).setCell (a := ⟨rb, 12, none⟩) (fun _ => rfl)
  have c1 : w.cell? ⟨rb, 12, none⟩ = some (.int .i32 0) := blk_cell hb rfl
  have f1 := blk_frozen hb 12
  have d0 : (w.setCell ⟨rb, 12, none⟩ (.int .i32 1)).cell? ⟨rb, 11, none⟩ = some (.int .u32 0) := blk_cell hb1 rfl
  have hld := run_call_load (P := Tryz.prog) Tryz.func76 (by kernel_rfl) (by kernel_rfl) (by kernel_rfl) .u32 (by kernel_rfl) d0
  have hnot : ∀ (x : Bool) (w : World), (Op.unary .not (.bool x)).run Tryz.prog w = .ok (.bool (!x)) w := fun _ _ => rfl
  generalize ownL (sk.map (fun w => (w, 0, 0)) ++ (numF 0 te ++ numN te.length no)) (fun _ => none) = MF at *
  have G : Hid (Calls Tryz.prog 60 #[.pointer (some ⟨rb, 8, none⟩)] (w.setCell ⟨rb, 12, none⟩ (.int .i32 1)) fun r w' => r = .returned (.tuple #[]) ∧ w'.heap[rb]? = some (rdK c (.int .u32 0) (.int .i32 1) (.map (some w.heap.size))) ∧ (∃ n, OwnMp w' w.heap.size n MF) ∧ Kept (oneBlk rb) w w' ∧ w.heap.size < w'.heap.size) := hid (G0.mono (fun r w' ⟨e, a1, a2, a3, a4⟩ => ⟨e, by rw [a1]; rfl, a2, hk1.trans a3, a4⟩))
  clear hb hb1 r1 r2 r3 G0 x1 x2 x3 hk1
  go_enter_defers Tryz.func69, Tryz.ntmps69
  go_wp2_with (first
    | (go_at_call 77; refine (lock_free ⟨rb, 12, none⟩ _ c1 f1).mono ?_; rintro e w' ⟨rfl, rfl⟩)
    | (go_at_call 68; go_in)
    | (go_at_call 60; refine (G.out).mono ?_; rintro e w2 ⟨rfl, hblk2, hmap2, hk2, hs2⟩))
  refine leaves_cons (f := 79) (args := #[.pointer (some ⟨rb, 11, none⟩), .bool true]) (by simp) (by simp [go_sem]) ?_
  refine (store_deferred ⟨rb, 11, none⟩ (.int .u32 0) .returning _ (blk_cell hblk2 rfl) (blk_frozen hblk2 11)).mono ?_
  rintro e u' w3 ⟨rfl, rfl, rfl⟩
  have hblk3 : (w2.drew.setCell ⟨rb, 11, none⟩ (.int .u32 1)).heap[rb]? = some (rdK c (.int .u32 1) (.int .i32 1) (.map (some w.heap.size))) := heap_setCell (w := w2.drew) hblk2
  refine leaves_cons (f := 78) (args := #[.pointer (some ⟨rb, 12, none⟩)]) (by simp [settle]) (by simp [go_sem]) ?_
  refine (unlock_deferred ⟨rb, 12, none⟩ _ _ (blk_cell hblk3 rfl) (blk_frozen hblk3 12)).mono ?_
  rintro e u' w4 ⟨rfl, rfl, rfl⟩
  have hblk4 : ((w2.drew.setCell ⟨rb, 11, none⟩ (.int .u32 1)).setCell ⟨rb, 12, none⟩ (.int .i32 0)).heap[rb]? = some (rdK c (.int .u32 1) (.int .i32 0) (.map (some w.heap.size))) := heap_setCell hblk3
  have hkk : Kept (oneBlk rb) w2 ((w2.drew.setCell ⟨rb, 11, none⟩ (.int .u32 1)).setCell ⟨rb, 12, none⟩ (.int .i32 0)) := ((Kept.of_below ((Below.refl _ w2).drew) (F := oneBlk rb)).setCell (a := ⟨rb, 11, none⟩) (fun _ => rfl)).setCell (a := ⟨rb, 12, none⟩) (fun _ => rfl)
  obtain ⟨n9, hmap2⟩ := hmap2
  have hmap4 := hmap2.keep hkk (fun e => by have : w.heap.size = rb := e; omega)
  simp only [Leaves, settle]
  exact ⟨.tuple #[], by simp [results, Tryz.results69], rfl, hblk4, ⟨n9, hmap4⟩, hk2.trans hkk, Nat.lt_of_lt_of_le hs2 hkk.size⟩

set_option maxRecDepth 100000 in
set_option maxHeartbeats 4000000 in
theorem doC {rb : Nat} {w : World} {c : Nat → Value} (sk te no : List Wd) (hb : w.heap[rb]? = some (rdK c (.int .u32 0) (.int .i32 0) (.map none))) (r1 : WRow w rb (c 8) sk) (r2 : WRow w rb (c 9) te) (r3 : WRow w rb (c 10) no) (l1 : sk.length ≤ 90000) (l2 : te.length ≤ 90000) (l3 : no.length ≤ 90000)
    (x1 : ∀ x ∈ sk, x.2.2.length ≤ 1000000) (x2 : ∀ x ∈ te, x.2.2.length ≤ 1000000) (x3 : ∀ x ∈ no, x.2.2.length ≤ 1000000) :
    Calls Tryz.prog 59 #[.pointer (some ⟨rb, 11, none⟩), fillV rb] w fun r w' => r = .returned (.tuple #[]) ∧ w'.heap[rb]? = some (rdK c (.int .u32 1) (.int .i32 0) (.map (some w.heap.size))) ∧ (∃ n, OwnMp w' w.heap.size n (ownL (sk.map (fun w => (w, 0, 0)) ++ (numF 0 te ++ numN te.length no)) (fun _ => none))) ∧ Kept (oneBlk rb) w w' ∧ w.heap.size < w'.heap.size := by
  have G := hid (slowC sk te no hb r1 r2 r3 l1 l2 l3 x1 x2 x3)
  generalize ownL (sk.map (fun w => (w, 0, 0)) ++ (numF 0 te ++ numN te.length no)) (fun _ => none) = MF at *
  have d0 : w.cell? ⟨rb, 11, none⟩ = some (.int .u32 0) := blk_cell hb rfl
  have hld := run_call_load (P := Tryz.prog) Tryz.func76 (by kernel_rfl) (by kernel_rfl) (by kernel_rfl) .u32 (by kernel_rfl) d0
  have hnot : ∀ (x : Bool) (w : World), (Op.unary .not (.bool x)).run Tryz.prog w = .ok (.bool (!x)) w := fun _ _ => rfl
  clear hb r1 r2 r3 x1 x2 x3
  go_enter Tryz.func59, Tryz.ntmps59
  go_wp2_with (first
    | (go_at_call 69; refine (G.out).mono ?_; rintro e w1 ⟨rfl, h1⟩; have h1 := hid h1)
    | (go_at_call 68; go_in))
  go_end0
  exact ⟨rfl, h1.out⟩
set_option maxRecDepth 100000 in
set_option maxHeartbeats 4000000 in
theorem doneC {rb : Nat} {w : World} (f : Value) (d0 : w.cell? ⟨rb, 11, none⟩ = some (.int .u32 1)) :
    Calls Tryz.prog 59 #[.pointer (some ⟨rb, 11, none⟩), f] w fun r w' => r = .returned (.tuple #[]) ∧ w' = w := by
  have hld := run_call_load (P := Tryz.prog) Tryz.func76 (by kernel_rfl) (by kernel_rfl) (by kernel_rfl) .u32 (by kernel_rfl) d0
  have hnot : ∀ (x : Bool) (w : World), (Op.unary .not (.bool x)).run Tryz.prog w = .ok (.bool (!x)) w := fun _ _ => rfl
  go_enter Tryz.func59, Tryz.ntmps59
  go_wp2_with (go_at_call 68; go_in)
  go_end0
  exact ⟨rfl, rfl⟩

end Go.Proofs.YtcledgljbmepaaaGreat
namespace Go.Proofs.YtcledgljbmepaaaGreat
open Go.RowKit Go.Maps

/-- the cells of the reader that stay -/
def rdC (X : RX) (lv : Value) (lc sc : Nat) (f : FS) : Nat → Value
  | 0 => X.wv
  | 1 => X.rv
  | 2 => X.nv
  | 3 => lv
  | 4 => X.pv
  | 5 => .int .i64 f.start
  | 6 => .int .i64 (lc : Int)
  | 7 => .int .i64 (sc : Int)
  | 8 => X.sk
  | 9 => X.te
  | 10 => X.no
  | 15 => X.la
  | 16 => .int .i64 (f.pl : Int)
  | 17 => .int .i64 f.err
  | _ => .int .i64 0
def prV (p : Pd) (v : Value) : List Value := [.int .i64 p.left, v, .int .i64 p.prec]
structure RdW (B : Nat) (T : Nat → Nat) (w : World) (rb : Nat) (X : RX) (st : RS) (f : FS) (lv : Value) (rs : List Value) (mp : Option Nat) : Prop where
  blk : w.heap[rb]? = some (rdK (rdC X lv st.levels st.starts f) (.int .u32 (if mp = none then 0 else 1)) (.int .i32 0) (.map mp))
  rt : T rb = 99
  own : ∀ b, T b ≠ 0 → B ≤ b ∧ b < w.heap.size
  base : B ≤ w.heap.size
  rules : OwnI w B T 1 40 3 X.rv st.rules.length ((st.rules.zip X.rl).flatMap fun x => rlV x.1 x.2)
  rlen : X.rl.length = st.rules.length
  rre : ∀ x ∈ st.rules.zip X.rl, RuC T w st.err x.2 x.1.re
  nonts : OwnI w B T 2 9 1 X.nv st.nonts.length (st.nonts.flatMap csT)
  skips : OwnI w B T 8 52 3 X.sk st.skips.length (st.skips.flatMap wdV)
  terms : OwnI w B T 9 52 3 X.te st.terms.length (st.terms.flatMap wdV)
  nons : OwnI w B T 10 52 3 X.no st.nons.length (st.nons.flatMap wdV)
  later : OwnI w B T 15 84 2 X.la st.later.length ((st.later.zip X.fl).flatMap fun x => spV x.1 x.2)
  flen : X.fl.length = st.later.length
  fst : ∀ x ∈ st.later.zip X.fl, StpV T w rb x.2 x.1
  levels : OwnI w B T 3 105 2 lv f.levels.length (f.levels.flatMap csL)
  prods : OwnI w B T 4 44 3 X.pv f.prods.length ((f.prods.zip rs).flatMap fun x => prV x.1 x.2)
  rslen : rs.length = f.prods.length
  rights : ∀ j (h : j < rs.length) (h' : j < f.prods.length), OwnI w B T (100 + j) 3 1 rs[j] f.prods[j].right.length (f.prods[j].right.flatMap csI)
  map : ∀ m, mp = some m → T m = 5 ∧ ∃ n, OwnMp w m n (ownL st.told (fun _ => none))
theorem RdW.fresh {B rb b : Nat} {T : Nat → Nat} {w : World} {X : RX} {st : RS} {f : FS} {lv : Value} {rs : List Value} {mp : Option Nat} (h : RdW B T w rb X st f lv rs mp) (hb : w.heap.size ≤ b) : T b = 0 := by
  rcases Nat.eq_zero_or_pos (T b) with h1 | h1
  · exact h1
  · have := (h.own b (by omega)).2
    omega
/-- nothing of the reader has changed -/
theorem RdW.kept {B rb : Nat} {T T' : Nat → Nat} {w w' : World} {X : RX} {st : RS} {f : FS} {lv : Value} {rs : List Value} {mp : Option Nat} {F : Nat → Prop} (h : RdW B T w rb X st f lv rs mp) (hk : Kept F w w') (hF : ∀ b, F b → T b = 77) (ht : ∀ b, b < w.heap.size → T b ≠ 77 → T' b = T b) (ho : ∀ b, T' b ≠ 0 → B ≤ b ∧ b < w'.heap.size) : RdW B T' w' rb X st f lv rs mp := by
  have hk7 : Kept (fun b => T b = 77) w w' := hk.mono (fun b _ e => hF b e)
  have hr := blk_lt h.blk
  have h7 : T rb ≠ 77 := by rw [h.rt]; decide
  refine ⟨hk7.blk h.blk h7, (ht rb hr h7).trans h.rt, ho, Nat.le_trans h.base hk.size, h.rules.mv hk7 (by decide) ht, h.rlen, fun x hx => (h.rre x hx).mv hk7 ht, h.nonts.mv hk7 (by decide) ht, h.skips.mv hk7 (by decide) ht, h.terms.mv hk7 (by decide) ht, h.nons.mv hk7 (by decide) ht, h.later.mv hk7 (by decide) ht, h.flen, fun x hx => (h.fst x hx).mv hk7 ht, h.levels.mv hk7 (by decide) ht, h.prods.mv hk7 (by decide) ht, h.rslen, fun j a b => (h.rights j a b).mv hk7 (by omega) ht, fun m e => ?_⟩
  obtain ⟨t5, n, hM⟩ := h.map m e
  have h8 : T m ≠ 77 := by rw [t5]; decide
  have hml : m < w.heap.size := (h.own m (by rw [t5]; decide)).2
  exact ⟨(ht m hml h8).trans t5, n, hM.keep hk7 h8⟩
theorem RdW.keep {B rb : Nat} {T : Nat → Nat} {w w' : World} {X : RX} {st : RS} {f : FS} {lv : Value} {rs : List Value} {mp : Option Nat} (h : RdW B T w rb X st f lv rs mp) (hb : Below w.heap.size w w') : RdW B T w' rb X st f lv rs mp :=
  h.kept (F := fun _ => False) (Kept.of_below hb) (fun _ e => e.elim) (fun _ _ _ => rfl) (fun b hn => ⟨(h.own b hn).1, Nat.lt_of_lt_of_le (h.own b hn).2 hb.size⟩)
theorem RdW.aside {B rb q : Nat} {T : Nat → Nat} {w F : World} {X : RX} {st : RS} {f : FS} {lv : Value} {rs : List Value} {mp : Option Nat} (h : RdW B T w rb X st f lv rs mp) (hb : Below w.heap.size w F) (h1 : w.heap.size ≤ q) (h2 : q < F.heap.size) : RdW B (tagT T q 77) F rb X st f lv rs mp ∧ Chg T (tagT T q 77) w F := by
  have ht : ∀ b, b < w.heap.size → tagT T q 77 b = T b := fun b hb9 => if_neg (by omega)
  refine ⟨h.kept (F := fun _ => False) (Kept.of_below hb) (fun _ e => e.elim) (fun b hb9 _ => ht b hb9) (fun b hn => ?_), Kept.of_below hb, ht⟩
  unfold tagT at hn
  split at hn
  · rename_i e; subst e; exact ⟨Nat.le_trans h.base h1, h2⟩
  · exact ⟨(h.own b hn).1, Nat.lt_of_lt_of_le (h.own b hn).2 hb.size⟩
theorem RdW.wrote {B rb q : Nat} {T : Nat → Nat} {w F : World} {X : RX} {st : RS} {f : FS} {lv : Value} {rs : List Value} {mp : Option Nat} (h : RdW B T w rb X st f lv rs mp) (hk : Kept (oneBlk q) w F) (hq : T q = 77) : RdW B T F rb X st f lv rs mp :=
  h.kept hk (fun b e => by rw [show b = q from e, hq]) (fun _ _ _ => rfl) (fun b hn => ⟨(h.own b hn).1, Nat.lt_of_lt_of_le (h.own b hn).2 hk.size⟩)
/-- the map has been made -/
theorem RdW.mapped {B rb m n : Nat} {T : Nat → Nat} {w F : World} {X : RX} {st : RS} {f : FS} {lv : Value} {rs : List Value} (h : RdW B T w rb X st f lv rs none) (hk : Kept (oneBlk rb) w F) (hb : F.heap[rb]? = some (rdK (rdC X lv st.levels st.starts f) (.int .u32 1) (.int .i32 0) (.map (some m)))) (h1 : w.heap.size ≤ m) (h2 : m < F.heap.size) (hM : OwnMp F m n (ownL st.told (fun _ => none))) :
    RdW B (tagT T m 5) F rb X st f lv rs (some m) ∧ Chg T (tagT T m 5) w F := by
  have hr := blk_lt h.blk
  have ht : ∀ b, b < w.heap.size → tagT T m 5 b = T b := fun b hb9 => if_neg (by omega)
  have hc : Chg T (tagT T m 5) w F := ⟨hk.mono (fun k _ e => by rw [show k = rb from e, h.rt]; decide), ht⟩
  have hF : ∀ i, i ≠ 99 → ∀ b, oneBlk rb b → T b ≠ i := fun i hi b e => by rw [show b = rb from e, h.rt]; exact hi.symm
  refine ⟨⟨hb, (ht rb hr).trans h.rt, fun b hn => ?_, Nat.le_trans h.base hk.size, h.rules.kept hk (hF 1 (by decide)) ht, h.rlen, fun x hx => (h.rre x hx).keep hc, h.nonts.kept hk (hF 2 (by decide)) ht, h.skips.kept hk (hF 8 (by decide)) ht, h.terms.kept hk (hF 9 (by decide)) ht, h.nons.kept hk (hF 10 (by decide)) ht, h.later.kept hk (hF 15 (by decide)) ht, h.flen, fun x hx => (h.fst x hx).keep hc, h.levels.kept hk (hF 3 (by decide)) ht, h.prods.kept hk (hF 4 (by decide)) ht, h.rslen, fun j a b => ?_, fun m' e => ?_⟩, hc⟩
  · unfold tagT at hn
    split at hn
    · rename_i e; subst e; exact ⟨Nat.le_trans h.base h1, h2⟩
    · exact ⟨(h.own b hn).1, Nat.lt_of_lt_of_le (h.own b hn).2 hk.size⟩
  · by_cases h9 : 100 + j = 99
    · omega
    · exact (h.rights j a b).kept hk (hF (100 + j) h9) ht
  · injection e with e
    subst e
    exact ⟨if_pos rfl, n, hM⟩

end Go.Proofs.YtcledgljbmepaaaGreat
namespace Go.Proofs.YtcledgljbmepaaaGreat
open Go.RowKit Go.Maps

structure BndS (st : RS) : Prop where
  l1 : st.skips.length ≤ 90000
  l2 : st.terms.length ≤ 90000
  l3 : st.nons.length ≤ 90000
  x1 : ∀ x ∈ st.skips, x.2.2.length ≤ 1000000
  x2 : ∀ x ∈ st.terms, x.2.2.length ≤ 1000000
  x3 : ∀ x ∈ st.nons, x.2.2.length ≤ 1000000
def RdQ (B : Nat) (T : Nat → Nat) (w : World) (rb : Nat) (X : RX) (st : RS) (f : FS) (lv : Value) (rs : List Value) (w' : World) : Prop := ∃ T' mp, RdW B T' w' rb X st f lv rs mp ∧ Chg T T' w w'
set_option maxRecDepth 20000 in
set_option maxHeartbeats 8000000 in
theorem findC {B rb : Nat} {T : Nat → Nat} {w : World} {X : RX} {st : RS} {f : FS} {lv : Value} {rs : List Value} {mp : Option Nat} (h : RdW B T w rb X st f lv rs mp) (hb : BndS st) (t : Txt) (ht : t.length ≤ 1000000) :
    Calls Tryz.prog 47 #[.pointer (some ⟨rb, 8, none⟩), .string (strT t)] w fun r w' => r = .returned (owV (st.fnd t)) ∧ RdQ B T w rb X st f lv rs w' := by
  have hmf : ∀ (fn : Fn) (first cap : Array Value) (w : World), (Instr.makeFunc fn first cap).run Tryz.prog w = .ok (.func fn first cap) w := fun _ _ _ _ => rfl
  obtain ⟨W1, hW1⟩ : ∃ y, w.alloc boxO0 = y := ⟨_, rfl⟩
  have hz1 : W1.heap.size = w.heap.size + 1 := by rw [← hW1]; exact World.size_alloc ..
  have hB1 : Below w.heap.size w W1 := by rw [← hW1]; exact al' w _
  have hr1 : W1.heap[w.heap.size]? = some boxO0 := by rw [← hW1]; exact heap_new w _
  obtain ⟨h1, c1⟩ := h.aside (q := w.heap.size) hB1 (Nat.le_refl _) (by omega)
  have hrb := blk_lt h.blk
  have hne : rb ≠ w.heap.size := by omega
  have hq7 : tagT T w.heap.size 77 w.heap.size = 77 := if_pos rfl
  obtain ⟨o, ho⟩ : ∃ o, st.fnd t = o := ⟨_, rfl⟩
  have HF : Hid (∀ T3 m F1, RdW B T3 F1 rb X st f lv rs (some m) → Chg (tagT T w.heap.size 77) T3 W1 F1 → F1.heap[w.heap.size]? = some boxO0 ∧ F1.cell? ⟨rb, 14, none⟩ = some (.map (some m)) ∧ (Instr.lookup 65 (.map (some m)) (.string (strT t)) false).run Tryz.prog F1 = .ok (owV o) F1 ∧ RdQ B T w rb X st f lv rs (((F1.setCell ⟨w.heap.size, 0, none⟩ (.int .i64 (o.1 : Int))).setCell ⟨w.heap.size, 1, none⟩ (.int .i64 (o.2.1 : Int))).setCell ⟨w.heap.size, 2, none⟩ (.int .i64 (o.2.2 : Int)))) := hid (fun T3 m F1 h3 c3 => by
    obtain ⟨-, n, hM⟩ := h3.map m rfl
    have hbx : F1.heap[w.heap.size]? = some boxO0 := c3.kept.blk hr1 (fun e => e.2 hq7)
    have hk := hM.look1 t ht
    have e9 : (ownL st.told (fun _ => none) t).getD (0, 0, 0) = o := ho
    rw [e9] at hk
    have hF : Kept (oneBlk w.heap.size) F1 (((F1.setCell ⟨w.heap.size, 0, none⟩ (.int .i64 (o.1 : Int))).setCell ⟨w.heap.size, 1, none⟩ (.int .i64 (o.2.1 : Int))).setCell ⟨w.heap.size, 2, none⟩ (.int .i64 (o.2.2 : Int))) := (((Kept.refl (oneBlk w.heap.size) F1).setCell (a := ⟨w.heap.size, 0, none⟩) (fun _ => rfl)).setCell (a := ⟨w.heap.size, 1, none⟩) (fun _ => rfl)).setCell (a := ⟨w.heap.size, 2, none⟩) (fun _ => rfl)
    have ht3 : T3 w.heap.size = 77 := (c3.tag w.heap.size (by omega)).trans hq7
    have c13 := c1.trans c3
    refine ⟨hbx, blk_cell h3.blk rfl, hk, T3, some m, h3.wrote hF ht3, ?_, c13.tag⟩
    exact c13.kept.step hF (fun k hk9 e => absurd hk9 (by rw [show k = w.heap.size from e]; exact Nat.lt_irrefl _)))
  have GD : Hid (Calls Tryz.prog 59 #[.pointer (some ⟨rb, 11, none⟩), fillV rb] W1 fun r F1 => r = .returned (.tuple #[]) ∧ ∃ T3 m, RdW B T3 F1 rb X st f lv rs (some m) ∧ Chg (tagT T w.heap.size 77) T3 W1 F1) := hid (by
    cases mp with
    | none =>
      refine (doC (c := rdC X lv st.levels st.starts f) st.skips st.terms st.nons h1.blk (h1.skips.wrow (_n := 0) h1.rt (by decide)) (h1.terms.wrow (_n := 0) h1.rt (by decide)) (h1.nons.wrow (_n := 0) h1.rt (by decide)) hb.l1 hb.l2 hb.l3 hb.x1 hb.x2 hb.x3).mono ?_
      rintro r F1 ⟨e, hblk, ⟨n, hM⟩, hk, hs⟩
      obtain ⟨h3, c3⟩ := h1.mapped hk hblk (Nat.le_refl _) hs hM
      exact ⟨e, _, _, h3, c3⟩
    | some m =>
      refine (doneC (fillV rb) (blk_cell h1.blk rfl)).mono ?_
      rintro r F1 ⟨e, rfl⟩
      exact ⟨e, _, m, h1, Chg.refl _ _⟩)
  rw [ho]
  clear h h1 c1 hb hr1 hB1 ho hq7
  obtain ⟨oa, ob, oc⟩ := o
  try dsimp only at *
  go_enter Tryz.func47, Tryz.ntmps47
  go_wp2_with (go_at_call 59; refine GD.out.mono ?_; clear GD; rintro e F1 ⟨rfl, T3, m, h3, c3⟩; obtain ⟨hbx, c14, hlk, hQ⟩ := HF.out T3 m F1 h3 c3; clear HF h3 c3; have hQ := hid hQ; obtain ⟨⟨q0, q1⟩, ⟨q2, q3⟩, ⟨q4, q5⟩, q6, q7, q8⟩ := putT3 hbx (.int .i64 (oa : Int)) (.int .i64 (ob : Int)) (.int .i64 (oc : Int)); clear hbx)
  refine bodyPost_ret (v := owV (oa, ob, oc)) (by simp [results, Tryz.results47, go_sem, q6, q7, q8]) rfl ⟨rfl, ?_⟩
  exact hQ.out

end Go.Proofs.YtcledgljbmepaaaGreat
