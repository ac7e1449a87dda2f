/- The reference of layer 8: topiaryref04.Find over states; Same of automata. topiaryref07.Of: what it holds in memory; a stack's cells. topiaryref07.Of. -/
import Derived.Test.YtlpbeieljjgbaaaGreatDoorJ32
import Derived.Test.YtlpbeieljjgbaaaGreatDoorJ12
import Derived.Test.YtlpbeieljjgbaaaGreatDoorJ20
import Derived.Test.YtlpbeieljjgbaaaGreatDoorJ21
import Derived.Deep.RegionHeld3
namespace Go.Proofs.YtlpbeieljjgbaaaGreatDoor
open Go.RowKit

/-- the place of a list among lists -/
def findS : List (List Int) → List Int → Nat → Int
  | [], _, _ => -1
  | a :: r, s, k => if a = s then (k : Int) else findS r s (k + 1)
theorem findS_at {ls : List (List Int)} {s : List Int} {k : Nat} (h : k < ls.length) : findS (ls.drop k) s k = if ls[k] = s then (k : Int) else findS (ls.drop (k + 1)) s (k + 1) := by
  rw [List.drop_eq_getElem_cons h, findS]
theorem findS_in {s : List Int} : ∀ {ls : List (List Int)} (k : Nat), s ∈ ls → findS ls s k = ((k + ls.idxOf s : Nat) : Int)
  | [], _, h => by cases h
  | a :: r, k, h => by
    rw [findS]
    by_cases e : a = s
    · subst e
      rw [if_pos rfl, List.idxOf_cons_self]
      rfl
    · rw [if_neg e, findS_in (k + 1) (by
        rcases List.mem_cons.1 h with h | h
        · exact absurd h.symm e
        · exact h), List.idxOf_cons, show (a == s) = false from beq_eq_false_iff_ne.2 e]
      simp only [cond_false]
      omega
theorem findS_out {s : List Int} : ∀ {ls : List (List Int)} (k : Nat), ¬ s ∈ ls → findS ls s k = -1
  | [], _, _ => rfl
  | a :: r, k, h => by
    rw [findS, if_neg (fun e => h (by simp [e])), findS_out (k + 1) (fun e => h (by simp [e]))]
set_option maxRecDepth 20000 in
set_option maxHeartbeats 1000000 in
theorem refFindS (av vs : Value) (ls : List (List Int)) (s : List Int) (w : World) (hn : ls.length ≤ 1000) (hl : ∀ l ∈ ls, l.length ≤ 100000) (hsl : s.length ≤ 100000) (hA : Numss w av ls) (hS : Nums w vs s) :
    Calls Tryz.prog 33 #[av, vs] w fun e w' => e = .returned (.int .i64 (findS ls s 0)) ∧ Below w.heap.size w w' := by
  have GS : Hid (∀ va l u, l.length ≤ 100000 → Nums u va l → Nums u vs s → Calls Tryz.prog 35 #[va, vs] u fun e w' => e = .returned (.bool (decide (l = s))) ∧ Below u.heap.size u w') := hid fun va l u h1 h2 h3 => refSame va vs l s u (by omega) (by omega) h2 h3
  obtain ⟨aa, ca, rfl, _, _, hA⟩ := hA
  have hA0 := hid hA
  have hS0 := hid hS
  have hl0 := hid hl
  clear hA hS hl
  obtain ⟨r, hr⟩ : ∃ r, Hid (findS ls s 0 = r) := ⟨_, hid rfl⟩
  rw [show findS ls s 0 = r from hr.out]
  go_enter Tryz.func33, Tryz.ntmps33
  go_wp2
  go_loopw [5] (fun i wr => ∃ k : Nat, k ≤ ls.length ∧ i = .int .i64 k ∧ Hid (r = findS (ls.drop k) s k) ∧ Below w.heap.size w wr) (fun i _ => ls.length - (intOf i).toNat)
  case atStart => exact ⟨0, Nat.zero_le _, rfl, hid (by rw [← hr.out]; rfl), Below.refl _ w⟩
  case round =>
    obtain ⟨k, hk, rfl, hf, hbl⟩ := hrel
    by_cases hlt : k < ls.length
    · have hltz : (k : Int) < (ls.length : Int) := by omega
      obtain ⟨b1, o1, vj, rfl, hb1, hc1, hN1⟩ := hA0.out k hlt
      have hd1 := (hbl.cell hb1).trans hc1
      have G := hid (GS.out vj ls[k] wr (hl0.out _ (List.getElem_mem hlt)) (hN1.keep hbl) (hS0.out.keep hbl))
      have hat := hid (findS_at (s := s) hlt)
      clear hc1 hN1
      by_cases he : ls[k] = s
      · rw [decide_eq_true he] at G
        have hres : r = (k : Int) := by rw [hf.out, hat.out, if_pos he]
        clear he hat hf
        go_wp2_with (go_at_call 35; refine (G.out).mono ?_; rintro e w1 ⟨rfl, hb1'⟩)
        go_ret
        exact ⟨by first | rfl | (rw [hres]; rfl), bl_step hbl hb1'⟩
      · rw [decide_eq_false he] at G
        have hf' : Hid (r = findS (ls.drop (k + 1)) s (k + 1)) := hid (by rw [hf.out, hat.out, if_neg he])
        clear he hat hf
        go_wp2_with (go_at_call 35; refine (G.out).mono ?_; rintro e w1 ⟨rfl, hb1'⟩)
        go_roundw
        case rel => exact ⟨k + 1, by omega, by go_num, hf', bl_step hbl hb1'⟩
        case measure => simp [intOf]; omega
    · have hltz : ¬ (k : Int) < (ls.length : Int) := by omega
      have hres : r = -1 := by rw [hf.out, List.drop_eq_nil_of_le (by omega)]; rfl
      clear hf
      go_wp2
      go_ret
      exact ⟨by first | rfl | (rw [hres]; rfl), hbl⟩

end Go.Proofs.YtlpbeieljjgbaaaGreatDoor
namespace Go.Proofs.YtlpbeieljjgbaaaGreatDoor
open Go.RowKit

theorem fold_lain : ∀ st : List Rx, (lain st).foldl stepS [] = st
  | [] => rfl
  | t :: st => by
    show (lain st ++ post t).foldl stepS [] = _
    rw [List.foldl_append, fold_lain st, fold_post]
theorem lain_stK {l : List Cel} (hr : rightB l = true) (k : Nat) (hk : k ≤ l.length) : lain (stK l k) = l.take k := by
  obtain ⟨_, st, _, hla, _⟩ := depth_stack l k _ (stK_right hr k hk)
  unfold stK
  rw [← hla, fold_lain]
theorem numS_lain : ∀ st : List Rx, numS (lain st) = nS st
  | [] => rfl
  | t :: st => by
    show numS (lain st ++ post t) = nS st + nSets t
    rw [numS_app, numS_lain st, numS_post]
theorem nS_take {l : List Cel} (hr : rightB l = true) (k : Nat) (hk : k ≤ l.length) : nS (stK l k) = numS (l.take k) := by
  rw [← lain_stK hr k hk, numS_lain]
theorem numS_mono (l : List Cel) (k : Nat) : numS (l.take k) ≤ numS l := by
  have := numS_app (l.take k) (l.drop k)
  rw [List.take_append_drop] at this
  omega
theorem nS_le {l : List Cel} (hr : rightB l = true) (k : Nat) (hk : k ≤ l.length) : nS (stK l k) ≤ nS (stK l l.length) := by
  rw [nS_take hr k hk, nS_take hr _ (Nat.le_refl _), List.take_length]
  exact numS_mono l k
theorem nS_succ {l : List Cel} (hr : rightB l = true) (k : Nat) (hk : k < l.length) : nS (stK l (k + 1)) = nS (stK l k) + (if l[k].op = 1 then 1 else 0) := by
  rw [nS_take hr _ hk, nS_take hr _ (by omega), numS_take l k hk]
theorem setsS_step {st : List Rx} {c : Cel} (h0 : 0 ≤ wants c.op) (h1 : wants c.op ≤ (st.length : Int)) : setsS (stepS st c) = if c.op = 1 then setsS st ++ [c.s] else setsS st := by
  obtain ⟨op, S⟩ := c
  simp only at h0 h1 ⊢
  rcases wants_cases op h0 with ⟨rfl, hw⟩ | ⟨rfl, hw⟩ | ⟨rfl, hw⟩ | ⟨rfl, hw⟩ | ⟨rfl, hw⟩ | ⟨rfl, hw⟩ | ⟨rfl, hw⟩
  · simp [stepS, setsS, setsL]
  · simp [stepS, setsS, setsL]
  · rw [hw] at h1
    match st, h1 with
    | b :: a :: r, _ => simp [stepS, setsS, setsL]
    | [_], h => simp at h
    | [], h => simp at h
  · rw [hw] at h1
    match st, h1 with
    | b :: a :: r, _ => simp [stepS, setsS, setsL]
    | [_], h => simp at h
    | [], h => simp at h
  · rw [hw] at h1
    match st, h1 with
    | a :: r, _ => simp [stepS, setsS, setsL]
    | [], h => simp at h
  · rw [hw] at h1
    match st, h1 with
    | a :: r, _ => simp [stepS, setsS, setsL]
    | [], h => simp at h
  · rw [hw] at h1
    match st, h1 with
    | a :: r, _ => simp [stepS, setsS, setsL]
    | [], h => simp at h
theorem setsS_succ {l : List Cel} (hr : rightB l = true) (k : Nat) (hk : k < l.length) : setsS (stK l (k + 1)) = if l[k].op = 1 then setsS (stK l k) ++ [l[k].s] else setsS (stK l k) := by
  rw [stK_succ l k hk, setsS_step (stK_wants hr k hk).1 (stK_wants hr k hk).2]

structure RM (pb : Nat) (F : Nat → Prop) (n : Nat) (w : World) (sv nv fv lv gv : Value) (S : List W4) (gs : List Value) (fl : List (List Int)) : Prop where
  lk : LkS F pb pb gv n w gs fl
  blk : w.heap[pb]? = some (.cells #[sv, nv, fv, lv, gv] 64 (0, 0))
  sets : OwnS w pb sv S
  sF : ∀ k, sv.ownBlock = some k → F k ∧ k ≠ pb ∧ gv.ownBlock ≠ some k
theorem RM.of {pb n : Nat} {F : Nat → Prop} {w : World} {sv gv ov : Value} {S : List W4} {gs : List Value} {fl : List (List Int)} {st : List Rx} {xs : List Value} (h : OfM pb pb F n w sv gv ov S gs fl st xs) : RM pb F n w sv (.bool false) nilV nilV gv S gs fl := ⟨h.lk, h.blk, h.sets, h.sF⟩
theorem RM.keep {pb n : Nat} {F : Nat → Prop} {w u : World} {sv nv fv lv gv : Value} {S : List W4} {gs : List Value} {fl : List (List Int)} (h : RM pb F n w sv nv fv lv gv S gs fl) (hu : Below w.heap.size w u) : RM pb F n u sv nv fv lv gv S gs fl := ⟨h.lk.keep hu, hs_keep h.blk hu, own_below h.sets hu, h.sF⟩
theorem RM.linked {pb n : Nat} {F : Nat → Prop} {w u : World} {sv nv fv lv gv : Value} {S : List W4} {gs gs' : List Value} {fl fl' : List (List Int)} (h : RM pb F n w sv nv fv lv gv S gs fl) (hu : Kept (fun k => gv.ownBlock = some k) w u) (hl : LkS F pb pb gv n u gs' fl') : RM pb F n u sv nv fv lv gv S gs' fl' :=
  ⟨hl, hu.blk h.blk (fun e => (h.lk.row _ e).2 rfl), own_kept h.sets hu (fun k e e' => (h.sF k e).2.2 e'), h.sF⟩
theorem RM.store {pb n o : Nat} {F : Nat → Prop} {w : World} {sv nv fv lv gv nv' fv' lv' x : Value} {S : List W4} {gs : List Value} {fl : List (List Int)} (h : RM pb F n w sv nv fv lv gv S gs fl) (hb : (w.setCell ⟨pb, o, none⟩ x).heap[pb]? = some (.cells #[sv, nv', fv', lv', gv] 64 (0, 0))) : RM pb F n (w.setCell ⟨pb, o, none⟩ x) sv nv' fv' lv' gv S gs fl := by
  have hk : Kept (oneBlk pb) w (w.setCell ⟨pb, o, none⟩ x) := (Kept.refl _ _).setCell fun _ => rfl
  have hkF : Kept F w (w.setCell ⟨pb, o, none⟩ x) := hk.mono fun k _ e => by have e' : k = pb := e; rw [e']; exact h.lk.inF
  refine ⟨⟨Nat.le_trans h.lk.base hk.size, fun k e => Nat.lt_of_lt_of_le (h.lk.lt k e) hk.size, h.lk.row, h.lk.inF, blk_cell hb rfl, own_kept h.lk.own hk (fun k e e' => (h.lk.row k e).2 e'), h.lk.nums.kept hkF, h.lk.len, h.lk.n60, h.lk.good⟩, hb, own_kept h.sets hk (fun k e e' => (h.sF k e).2.1 e'), h.sF⟩
theorem folOK_none : FolOK (fun _ _ => False) 0 [] := ⟨rfl, fun _ hj => absurd hj (Nat.not_lt_zero _), fun _ _ hj => absurd hj (Nat.not_lt_zero _)⟩

end Go.Proofs.YtlpbeieljjgbaaaGreatDoor
namespace Go.Proofs.YtlpbeieljjgbaaaGreatDoor
open Go.RowKit

set_option maxRecDepth 20000 in
set_option maxHeartbeats 8000000 in
theorem rofGood (v : Value) (t : Rx) (w : World) (hA : Cels w v (post t)) (ho : t.ok) (h60 : (post t).length ≤ 60) :
    Calls Tryz.prog 30 #[v] w fun e w' => ∃ sv fv lv gv fl, e = .returned (.agg #[sv, .bool t.null, fv, lv, gv]) ∧ SpVF (fun k => k < w.heap.size) w' sv fv lv gv ⟨setsS [t], t.null, firstL t 0, lastL t 0, fl⟩ ∧ FolOK (FolS [t]) (nS [t]) fl ∧ Below w.heap.size w w' := by
  have hrt := right_post ho h60
  have hfit : Hid (∀ S ∈ setsS [t], Fit4 S) := hid (fun S hS => by obtain ⟨_, _, _, _, _, hF, _⟩ := hA; exact (hF _ (setsL_post t S (by simpa [setsS] using hS))).3)
  have hend : Hid (stK (post t) (post t).length = [t]) := hid (stK_end t)
  obtain ⟨l, hl⟩ : ∃ l, l = post t := ⟨_, rfl⟩
  rw [← hl] at hA hrt hend h60
  have hpos : 0 < l.length := by rw [hl]; exact post_pos t
  have hA0 := hid (fun u (hu : Below w.heap.size w u) => hA.keep hu)
  have hE1 : ((l.length : Int) - 1) + 1 = ((([] : List Cel).length + (post t).length : Nat) : Int) := by rw [← hl]; simp
  have hlt0 : l = [] ++ (post t ++ []) := by rw [hl]; simp
  have GE := hid (fun u (hu : Below w.heap.size w u) => emptyC t v l [] [] ((l.length : Int) - 1) u (hA0.out u hu) h60 hlt0 hE1)
  have GF := hid (fun u (hu : Below w.heap.size w u) => firstLC t v l [] [] ((l.length : Int) - 1) u (hA0.out u hu) h60 hlt0 hE1)
  have GL := hid (fun u (hu : Below w.heap.size w u) => lastLC t v l [] [] ((l.length : Int) - 1) u (hA0.out u hu) h60 hlt0 hE1)
  have hnt : nSets t ≤ 60 := Nat.le_trans (nSets_le t) (by rw [← hl]; exact h60)
  have hnf : (firstL t 0).length ≤ 60 := Nat.le_trans (firstL_len t 0) hnt
  have hnl : (lastL t 0).length ≤ 60 := Nat.le_trans (lastL_len t 0) hnt
  have GO := hid (fun x (q : List Int) u (hq : q.length ≤ 60) (hu : Up q) hN => by have h := refOf x q u (by omega) hN; rw [ofL_self hu] at h; exact h)
  have hUF := hid (firstL_up t 0)
  have hUL := hid (lastL_up t 0)
  obtain ⟨av, cv, rfl, _, _, hFl, hAt⟩ := hA
  have hAt := hid hAt
  have hFl := hid hFl
  have hsuc := hid (fun k (hk : k < l.length) => stK_succ l k hk)
  have hwan := hid (fun k (hk : k < l.length) => stK_wants hrt k hk)
  have hns := hid (fun k (hk : k ≤ l.length) => nS_stK hrt k hk)
  have hnle := hid (fun k (hk : k ≤ l.length) => nS_le hrt k hk)
  have hss := hid (fun k (hk : k < l.length) => setsS_succ hrt k hk)
  have hnu := hid (fun k (hk : k < l.length) => nS_succ hrt k hk)
  have hla := hid (fun k (hk : k ≤ l.length) => lain_stK hrt k hk)
  obtain ⟨iS, hiS, zS0, zS1, zS2⟩ := info_parts Tryz.infoS4
  obtain ⟨iN, hiN, zN0, zN1, zN2⟩ := info_parts Tryz.infoN
  have hM0 := OfM.start (w.alloc (.cells #[nilV, .bool false, nilV, nilV, nilV] 64)) w.heap.size (by simp)
  rw [size_al] at hM0
  have hM0 := hid hM0
  have hbw : Hid (Below w.heap.size w ((w.alloc (.cells #[nilV, .bool false, nilV, nilV, nilV] 64)).alloc (.cells #[nilV, .bool false, nilV, nilV, nilV] 64))) := hid (bl_step (al' w _) (al' _ _))
  have hqr := hid (two_blocks w (.cells #[nilV, .bool false, nilV, nilV, nilV] 64) (.cells #[nilV, .bool false, nilV, nilV, nilV] 64)).1
  have hpb : w.heap.size < w.heap.size + 1 := by omega
  have hpl : Hid (w.heap.size + 1 < ((w.alloc (.cells #[nilV, .bool false, nilV, nilV, nilV] 64)).alloc (.cells #[nilV, .bool false, nilV, nilV, nilV] 64)).heap.size) := hid (by simp)
  have hwl : IntKind.i64.wrap ((l.length : Int) - 1) = (l.length : Int) - 1 := by rw [IntKind.wrap_i64]; omega
  clear ho hrt hl hE1 hlt0
  go_enter Tryz.func30, Tryz.ntmps30
  go_wp2
  generalize (w.alloc (.cells #[nilV, .bool false, nilV, nilV, nilV] 64)).alloc (.cells #[nilV, .bool false, nilV, nilV, nilV] 64) = W0 at hM0 hbw hqr hpl ⊢
  generalize w.heap.size + 1 = pb at hM0 hpb hpl ⊢
  go_loopw [5] (fun i wr => ∃ (k : Nat) (F : Nat → Prop) (sv gv : Value) (gs : List Value) (fl : List (List Int)), k ≤ l.length ∧ i = .int .i64 k ∧ Hid (OfM pb pb F (nS (stK l k)) wr sv gv nilV (setsS (stK l k)) gs fl [] []) ∧ Hid (FolOK (fun _ _ => False) (nS (stK l k)) fl) ∧ Hid (LowF w.heap.size F) ∧ Below pb W0 wr) (fun i _ => l.length - (intOf i).toNat)
  case atStart => exact ⟨0, _, _, _, _, _, Nat.zero_le _, rfl, hM0, hid folOK_none, hid (fun _ h => Or.inr h), (Below.refl _ _).mono (Nat.le_of_lt hpl.out)⟩
  case round =>
    obtain ⟨k, F, sv, gv, gs, fl, hk, rfl, hM, hFol, hX, hbl⟩ := hrel
    have hnk := hns.out k hk
    have hblw := hid (hbw.out.trans (hbl.mono (Nat.le_of_lt hpb)))
    have hpw : Hid (pb ≤ wr.heap.size) := hid hM.out.lk.base
    by_cases hlt : k < l.length
    · have hltz : (k : Int) < (l.length : Int) := by omega
      have hlez : (k : Int) ≤ (l.length : Int) - 1 := by omega
      obtain ⟨b', o', rfl, hb', hat0⟩ := hAt.out k hlt
      have hat := hat0.keep hblw.out
      clear hat0
      have hs1 := hid (hss.out k hlt)
      have hn1 := hid (hnu.out k hlt)
      generalize stK l k = st at hM hFol hnk hs1 hn1
      generalize l[k] = c at hat hs1 hn1
      obtain ⟨op, S⟩ := c
      obtain ⟨sa, sb, sc, sd⟩ := S
      obtain ⟨d0, d1, d2, d3, d4⟩ := hat
      simp only at d0 d1 d2 d3 d4 hs1 hn1
      by_cases h1 : op = 1
      · subst h1
        rw [if_pos rfl] at hs1 hn1
        obtain ⟨sva, svc, rfl⟩ := own_shape hM.out.sets
        obtain ⟨gva, gvc, rfl⟩ := own_shape hM.out.lk.own
        have hgl : gs.length ≤ 60 := by rw [hM.out.lk.len]; omega
        have hs60 : (setsS st).length ≤ 60 := by rw [setsS_len]; omega
        have hnn : nS st + 1 ≤ 60 := by omega
        have hbd : Hid (Below wr.heap.size wr (wr.alloc (.cells #[.int .u64 (sa : Int), .int .u64 (sb : Int), .int .u64 (sc : Int), .int .u64 (sd : Int)] 80)).drew) := hid (bl_step (al' wr (.cells #[.int .u64 (sa : Int), .int .u64 (sb : Int), .int .u64 (sc : Int), .int .u64 (sd : Int)] 80)) ((Below.refl _ (wr.alloc (.cells #[.int .u64 (sa : Int), .int .u64 (sb : Int), .int .u64 (sc : Int), .int .u64 (sd : Int)] 80))).drew))
        have M1 := hid (hM.out.keep hbd.out)
        have hB1 := hid (bstep hbl hbd.out hpw.out)
        have hN1 := hid (World.news_of_block (w := (wr.alloc (.cells #[.int .u64 (sa : Int), .int .u64 (sb : Int), .int .u64 (sc : Int), .int .u64 (sd : Int)] 80)).drew) (heap_new wr (.cells #[.int .u64 (sa : Int), .int .u64 (sb : Int), .int .u64 (sc : Int), .int .u64 (sd : Int)] 80)))
        obtain ⟨p0, p1, p2, p3, p4, -⟩ := cells5s (show wr.drew.heap[pb]? = _ from hM.out.blk)
        obtain ⟨P0, P1, P2, P3, P4, -⟩ := cells5s (show (wr.alloc (.cells #[.int .u64 (sa : Int), .int .u64 (sb : Int), .int .u64 (sc : Int), .int .u64 (sd : Int)] 80)).heap[pb]? = _ from M1.out.blk)
        go_wp2_with fail
        go_region_law ((first
          | (refine step_append_lies _ (by rfl) (.tmp 26) (.tmp 32) 47 (by rfl) pb 80 iS (.agg #[.int .u64 0, .int .u64 0, .int .u64 0, .int .u64 0]) 4 32 Tryz.underlying47 hiS zS0 zS1 zS2 rfl (by decide) (.slice sva (setsS st).length svc) (setsS st).length (flatS (setsS st)) (by rfl) M1.out.sets ⟨wr.heap.size, 0, none⟩ 1 1 [.int .u64 (sa : Int), .int .u64 (sb : Int), .int .u64 (sc : Int), .int .u64 (sd : Int)] (by rfl) (by rfl) hN1.out (by simp [Value.oneCell']) (by omega) (by (unfold maxLen); omega) (by omega) M1.out.lk.base (World.heap (wr.alloc (.cells #[.int .u64 (sa : Int), .int .u64 (sb : Int), .int .u64 (sc : Int), .int .u64 (sd : Int)] 80)).drew).size rfl ?_; intro g3 cap3 w3 hown3 hgrow3 hat3 hlt3; have M5 := hid (M1.out.addSet (T := ⟨sa, sb, sc, sd⟩) hown3 hgrow3 hat3); have hb3 := grown_blk hgrow3 M1.out.blk (fun e => (M1.out.sF _ e).2.1 rfl); obtain ⟨s0, s1, s2, s3, s4, t0, t1, t2, t3, t4⟩ := cells5s hb3; have hB5 := hid (bl_set (bgrow hB1.out hgrow3 M1.out.lk.base (fun k e => (M1.out.sets.lt k e).1)) pb 0 (.slice (some ⟨g3, 0, none⟩) ((setsS st).length + 1) cap3) (Nat.le_refl _)); obtain ⟨x0, x1, x2, x3, x4, -⟩ := cells5s M5.out.blk; have M6 := hid (M5.out.keep (al' (w3.setCell ⟨pb, 0, none⟩ (.slice (some ⟨g3, 0, none⟩) ((setsS st).length + 1) cap3)) (.cells #[.slice none 0 0] 23))); have hB6 := hid (bstep hB5.out (al' (w3.setCell ⟨pb, 0, none⟩ (.slice (some ⟨g3, 0, none⟩) ((setsS st).length + 1) cap3)) (.cells #[.slice none 0 0] 23)) M5.out.lk.base); clear hb3 hgrow3 hown3)
          | fail))
        all_goals
          go_wp2_with (at_builtin; refine wpList_append_lies _ (by rfl) _ _ _ (by rfl) pb 23 iN (.slice none 0 0) 1 24 Tryz.underlying22 hiN zN0 zN1 zN2 rfl (by decide) (.slice gva gs.length gvc) gs.length gs (by rfl) M6.out.lk.own ⟨w3.heap.size, 0, none⟩ 1 1 [.slice none 0 0] (by rfl) (by rfl) (World.news_of_block (heap_new_set w3 _ _ (.cells #[.slice none 0 0] 23))) (by simp [Value.oneCell']) (by omega) (by (unfold maxLen); omega) (by omega) M6.out.lk.base (World.heap ((w3.setCell ⟨pb, 0, none⟩ (.slice (some ⟨g3, 0, none⟩) ((setsS st).length + 1) cap3)).alloc (.cells #[.slice none 0 0] 23))).size rfl ?_; intro g4 cap4 w4 hown4 hgrow4 hat4 hlt4; have M7 := hid (M6.out.addFol hnn hown4 hgrow4 hat4); have hb4 := grown_blk hgrow4 M6.out.blk (fun e => (M6.out.lk.row _ e).2 rfl); obtain ⟨y0, y1, y2, y3, y4, v0, v1, v2, v3, v4⟩ := cells5s hb4; have hB7 := hid (bl_set (bgrow hB6.out hgrow4 M6.out.lk.base (fun k e => (M6.out.lk.own.lt k e).1)) pb 4 (.slice (some ⟨g4, 0, none⟩) (gs.length + 1) cap4) (Nat.le_refl _)); clear hb4 x0 x1 x2 x3 x4 hgrow4 hown4)
          go_roundw
          case rel => exact ⟨k + 1, _, _, _, _, _, by omega, by go_num, hid (by rw [hs1.out, hn1.out]; exact M7.out), hid (by rw [hn1.out]; exact hFol.out.more (fun j k h => h.elim)), hid (hX.out.up fun _ h => Or.inl (Or.inl h)), hB7.out⟩
          case measure => simp [intOf]; omega
      · have hne : (op == 1) = false := by simpa using h1
        rw [if_neg h1] at hs1 hn1
        go_wp2
        go_roundw
        case rel => exact ⟨k + 1, F, sv, gv, gs, fl, by omega, by go_num, hid (by rw [hs1.out, hn1.out]; exact hM.out), hid (by rw [hn1.out]; exact hFol.out), hX, hbl⟩
        case measure => simp [intOf]; omega
    · have hltz : ¬ (k : Int) ≤ (l.length : Int) - 1 := by omega
      obtain rfl : k = l.length := by omega
      rw [hend.out] at hM hFol
      obtain ⟨sva, svc, rfl⟩ := own_shape hM.out.sets
      obtain ⟨gva, gvc, hgv⟩ := own_shape hM.out.lk.own
      rw [hM.out.lk.len] at hgv
      subst hgv
      have R0 := hid (RM.of hM.out)
      obtain ⟨p0, p1, p2, p3, p4, f0, f1, f2, f3, f4⟩ := cells5s R0.out.blk
      have R1 := hid (R0.out.store (o := 1) (x := .bool t.null) (nv' := .bool t.null) (fv' := nilV) (lv' := nilV) (heap_setCell R0.out.blk))
      have hB1 := hid (bl_set hbl pb 1 (.bool t.null) (Nat.le_refl _))
      have hW1 := hid (hbw.out.trans (hB1.out.mono (Nat.le_of_lt hpb)))
      have GF1 := hid (GF.out (wr.setCell ⟨pb, 1, none⟩ (.bool t.null)) hW1.out)
      have GE1 := hid (GE.out wr hblw.out)
      have hltF : Hid (∀ k, F k → k < wr.heap.size) := hid hM.out.lk.lt
      go_wp2_with (first
        | (go_at_call_of 50 v4; refine (GO.out _ (lastL t 0) w4 hnl hUL.out (Nums.of_row hO4)).mono ?_; rintro e w5 ⟨v5, rfl, hO5, hb5⟩; obtain ⟨la, lc, rfl, hx5⟩ := id (Nums.of_row hO5); clear hx5; have R4 := hid (R3.out.keep (bl_step hb4 hb5)); have hB4 := hid (bstep hB3.out (bl_step hb4 hb5) R3.out.lk.base); obtain ⟨r0, r1, r2, r3, r4, h0, h1, h2, h3, h4⟩ := cells5s R4.out.blk; have R5 := hid (R4.out.store (o := 3) (x := (.slice la (lastL t 0).length lc)) (nv' := .bool t.null) (fv' := (.slice fa (firstL t 0).length fc)) (lv' := (.slice la (lastL t 0).length lc)) (heap_setCell R4.out.blk)); have hB5 := hid (bl_set hB4.out pb 3 (.slice la (lastL t 0).length lc) (Nat.le_refl _)); have hoL : Hid (Off F (.slice la (lastL t 0).length lc)) := hid (Off.new hO5 (fun k e => by (have h := R3.out.lk.lt k e; have h2 := hb4.size; omega))); have hPt : Hid (PtV F (w5.setCell ⟨pb, 3, none⟩ (.slice la (lastL t 0).length lc)) (.slice fa (firstL t 0).length fc) (.slice la (lastL t 0).length lc) (firstL t 0) (lastL t 0)) := hid ⟨Nums.kept (Nums.keep (Nums.kept (Nums.of_row hO3) (F := F) ((Kept.refl F w3).setCell (a := ⟨pb, 2, none⟩) (v := (.slice fa (firstL t 0).length fc)) (fun _ => R1.out.lk.inF)) hoF.out) (bl_step hb4 hb5)) ((Kept.refl F w5).setCell (a := ⟨pb, 3, none⟩) (v := (.slice la (lastL t 0).length lc)) (fun _ => R1.out.lk.inF)) hoF.out, hoF.out, Nums.kept (Nums.of_row hO5) (F := F) ((Kept.refl F w5).setCell (a := ⟨pb, 3, none⟩) (v := (.slice la (lastL t 0).length lc)) (fun _ => R1.out.lk.inF)) hoL.out, hoL.out⟩)
        | (go_at_call 52; refine GL3.out.mono ?_; rintro e w4 ⟨v4, rfl, hO4, hb4⟩)
        | (go_at_call_of 50 v2; refine (GO.out _ (firstL t 0) w2 hnf hUF.out (Nums.of_row hO2)).mono ?_; rintro e w3 ⟨v3, rfl, hO3, hb3⟩; obtain ⟨fa, fc, rfl, hx3⟩ := id (Nums.of_row hO3); clear hx3; have R2 := hid (R1.out.keep (bl_step hb2 hb3)); have hB2 := hid (bstep hB1.out (bl_step hb2 hb3) R1.out.lk.base); obtain ⟨q0, q1, q2, q3, q4, g0, g1, g2, g3, g4⟩ := cells5s R2.out.blk; have R3 := hid (R2.out.store (o := 2) (x := (.slice fa (firstL t 0).length fc)) (nv' := .bool t.null) (fv' := (.slice fa (firstL t 0).length fc)) (lv' := nilV) (heap_setCell R2.out.blk)); have hB3 := hid (bl_set hB2.out pb 2 (.slice fa (firstL t 0).length fc) (Nat.le_refl _)); have hW3 := hid (hbw.out.trans (hB3.out.mono (Nat.le_of_lt hpb))); have GL3 := hid (GL.out (w3.setCell ⟨pb, 2, none⟩ (.slice fa (firstL t 0).length fc)) hW3.out); have hoF : Hid (Off F (.slice fa (firstL t 0).length fc)) := hid (Off.new hO3 (fun k e => by (have h := R1.out.lk.lt k e; have h2 := hb2.size; omega))))
        | (go_at_call 51; refine GF1.out.mono ?_; rintro e w2 ⟨v2, rfl, hO2, hb2⟩)
        | (go_at_call 49; refine GE1.out.mono ?_; rintro e u1 ⟨rfl, hu⟩; subst u1))
      have hFol0 : Hid (FolOK (FolS (stK l 0)) (nS [t]) fl) := hid (hFol.out.congr fun j k _ => Iff.rfl)
      have hX := hX
      have hQ0 : Hid (PtV F (w5.setCell ⟨pb, 3, none⟩ (.slice la (lastL t 0).length lc)) (.slice fa (firstL t 0).length fc) (.slice la (lastL t 0).length lc) (firstL t 0) (lastL t 0)) := hid hPt.out
      clear GF1 GE1 GE GF GL GO hM hFol hblw R0 R1 R3 hltF p0 p1 p2 p3 p4 f0 f1 f2 f3 f4
      generalize hNf : (firstL t 0).length = nf at *
      generalize hNl : (lastL t 0).length = nl at *
      have hNf := hid hNf
      have hNl := hid hNl
      generalize (w5.setCell ⟨pb, 3, none⟩ (.slice la (lastL t 0).length lc)) = W6 at *
      go_loopw [6] (fun i wr => ∃ (k : Nat) (gs : List Value) (fl : List (List Int)), k ≤ l.length ∧ i = .int .i64 k ∧ Hid (RM pb F (nS [t]) wr (.slice sva (setsS [t]).length svc) (.bool t.null) (.slice fa nf fc) (.slice la nl lc) (.slice gva (nS [t]) gvc) (setsS [t]) gs fl) ∧ Hid (PtV F wr (.slice fa nf fc) (.slice la nl lc) (firstL t 0) (lastL t 0)) ∧ Hid (FolOK (FolS (stK l k)) (nS [t]) fl) ∧ Below pb W0 wr) (fun i _ => l.length - (intOf i).toNat)
      case atStart => exact ⟨0, gs, fl, Nat.zero_le _, rfl, R5, hQ0, hFol0, hB5.out⟩
      case round =>
        clear hFol0 hQ0 R5 hB5
        obtain ⟨k, gs, fl, hk, rfl, hR, hPq, hFol, hbl⟩ := hrel
        have hnk := hns.out k hk
        have hblw := hid (hbw.out.trans (hbl.mono (Nat.le_of_lt hpb)))
        have hpw : Hid (pb ≤ wr.heap.size) := hid hR.out.lk.base
        by_cases hlt : k < l.length
        · have hltz : (k : Int) < (l.length : Int) := by omega
          have hlez : (k : Int) ≤ (l.length : Int) - 1 := by omega
          have hcel := hid (hA0.out wr hblw.out)
          obtain ⟨b', o', hav, hb', hat0⟩ := hAt.out k hlt
          have hat := hat0.keep hblw.out
          clear hat0
          have hw := hwan.out k hlt
          have hsu := hid (hsuc.out k hlt)
          have hla1 := hid (hla.out k hk)
          have hle1 := hnle.out k hk
          rw [hend.out] at hle1
          have hltF : Hid (∀ k, F k → k < wr.heap.size) := hid hR.out.lk.lt
          generalize stK l k = st at hFol hnk hw hsu hla1 hle1
          generalize l[k] = c at hat hw hsu
          obtain ⟨op, S⟩ := c
          obtain ⟨ca, cb, cc, cd⟩ := S
          obtain ⟨d0, -, -, -, -⟩ := hat
          simp only at d0 hw
          rcases wants_cases op hw.1 with ⟨rfl, hwo⟩ | ⟨rfl, hwo⟩ | ⟨rfl, hwo⟩ | ⟨rfl, hwo⟩ | ⟨rfl, hwo⟩ | ⟨rfl, hwo⟩ | ⟨rfl, hwo⟩
          · skip
            have hF2 : Hid (FolOK (FolS (stK l (k + 1))) (nS [t]) fl) := hid (by rw [hsu.out]; exact hFol.out.congr fun j k _ => by simp [stepS, FolS, Fol])
            obtain ⟨wo, hwo2⟩ : ∃ x, x = wr := ⟨_, rfl⟩
            subst hwo2
            subst hav
            go_wp2
            go_loopw [9] (fun i wr2 => i = .int .i64 0 ∧ Hid (wr2 = wo)) (fun _ _ => 0)
            case atStart => exact ⟨rfl, hid rfl⟩
            case round =>
              obtain ⟨rfl, hwr⟩ := hrel
              have hwr' := hwr.out
              subst hwr'
              go_wp2
              go_roundw
              case rel => exact ⟨k + 1, gs, fl, by omega, by go_num, hR, hPq, hF2, hbl⟩
              case measure => simp [intOf]; omega
          · skip
            have hF2 : Hid (FolOK (FolS (stK l (k + 1))) (nS [t]) fl) := hid (by rw [hsu.out]; exact hFol.out.congr fun j k _ => by simp [stepS, FolS, Fol])
            obtain ⟨wo, hwo2⟩ : ∃ x, x = wr := ⟨_, rfl⟩
            subst hwo2
            subst hav
            go_wp2
            go_loopw [9] (fun i wr2 => i = .int .i64 0 ∧ Hid (wr2 = wo)) (fun _ _ => 0)
            case atStart => exact ⟨rfl, hid rfl⟩
            case round =>
              obtain ⟨rfl, hwr⟩ := hrel
              have hwr' := hwr.out
              subst hwr'
              go_wp2
              go_roundw
              case rel => exact ⟨k + 1, gs, fl, by omega, by go_num, hR, hPq, hF2, hbl⟩
              case measure => simp [intOf]; omega
          · obtain ⟨b, a, r, rfl⟩ := two_top (by rw [hwo] at hw; exact hw.2)
            have hsp : l = lain r ++ (post a ++ (post b ++ l.drop k)) := by
              conv => lhs; rw [← List.take_append_drop k l, ← hla1.out]
              simp [lain]
            have hlen : (lain r).length + (post a).length + (post b).length = k := by
              have h := congrArg List.length hla1.out
              rw [List.length_take] at h
              simp [lain] at h
              omega
            have hpa := post_pos a
            have hpb2 := post_pos b
            have hsp2 : l = (lain r ++ post a) ++ (post b ++ l.drop k) := by rw [List.append_assoc]; exact hsp
            have hE2 : ((k : Int) - 1) + 1 = (((lain r ++ post a).length + (post b).length : Nat) : Int) := by rw [List.length_append]; omega
            have hE3 : (((lain r ++ post a).length : Nat) : Int) - 1 + 1 = (((lain r).length + (post a).length : Nat) : Int) := by rw [List.length_append]; omega
            have GFr := hid (fromC (.slice av l.length cv) l (lain r ++ post a) (l.drop k) b ((k : Int) - 1) wr hcel.out h60 hsp2 hE2)
            have GLa := hid (lastLC a (.slice av l.length cv) l (lain r) (post b ++ l.drop k) ((((lain r ++ post a).length : Nat) : Int) - 1) wr hcel.out h60 hsp hE3)
            have GFb := hid (fun u (hu : Below wr.heap.size wr u) => firstLC b (.slice av l.length cv) l (lain r ++ post a) (l.drop k) ((k : Int) - 1) u (hcel.out.keep hu) h60 hsp2 hE2)
            rw [numS_lain] at GLa
            rw [numS_app, numS_lain, numS_post] at GFb
            have hM0' : 0 < (lain r ++ post a).length := by rw [List.length_append]; omega
            have hM1' : (lain r ++ post a).length ≤ 60 := by rw [List.length_append]; omega
            have hF2 : Hid (FolOK (FolS (stK l (k + 1))) (nS [t]) (linkL fl (firstL b (nS r + nSets a)) (lastL a (nS r)))) := hid (by
              rw [hsu.out]
              exact ((hFol.out.link (lastL_mem a (nS r)) (fun k hk => by have := lst_in a _ k hk; have h2 : nS r + nSets a + nSets b = nS (b :: a :: r) := rfl; omega) (firstL_mem b (nS r + nSets a))).congr fun j k _ => (folS_cat a b r j k).symm))
            have hnab : nS r + nSets a + nSets b = nS (b :: a :: r) := rfl
            have hIA : InN (lastL a (nS r)) (nS [t]) := lastL_in a _ _ (by omega)
            have hIB : InN (firstL b (nS r + nSets a)) (nS [t]) := firstL_in b _ _ (by omega)
            have hLA : (lastL a (nS r)).length ≤ 60 := Nat.le_trans (lastL_len a _) (by have := hnk.1; omega)
            have hLB : (firstL b (nS r + nSets a)).length ≤ 60 := Nat.le_trans (firstL_len b _) (by have := hnk.1; omega)
            generalize lastL a (nS r) = LA at *
            generalize firstL b (nS r + nSets a) = LB at *
            generalize (lain r ++ post a).length = M at *
            have hk1 : 1 ≤ k := by omega
            subst hav
            obtain ⟨wo, hwo2⟩ : ∃ x, x = wr := ⟨_, rfl⟩
            subst hwo2
            have hwk : IntKind.i64.wrap ((k : Int) - 1) = (k : Int) - 1 := by rw [IntKind.wrap_i64]; omega
            clear hsu hla1 hlen hsp hsp2 hcel hE2 hE3
            go_wp2_with (first
              | (go_at_call 53; refine GFr.out.mono ?_; rintro e u2 ⟨rfl, hu2⟩; subst u2)
              | (go_at_call 51; refine (GFb.out w1 hb1).mono ?_; rintro e w2 ⟨v2, rfl, hO2, hb2⟩; have e0 := keep_cell (bl_step hb1 hb2) d0)
              | (go_at_call 52; refine GLa.out.mono ?_; rintro e w1 ⟨v1, rfl, hO1, hb1⟩))
            obtain ⟨va1, va2, rfl, hxa⟩ := id (Nums.of_row hO1)
            obtain ⟨vb1, vb2, rfl, hxb⟩ := id (Nums.of_row hO2)
            clear hxa hxb
            have hb12 := bl_step hb1 hb2
            have hR2 := hid (hR.out.keep hb12)
            have hPq2 := hid (hPq.out.keep hb12)
            have hB2 := hid (bstep hbl hb12 hpw.out)
            have hN1 : Nums w2 (.slice va1 LA.length va2) LA := (Nums.of_row hO1).keep hb2
            have hN2 : Nums w2 (.slice vb1 LB.length vb2) LB := Nums.of_row hO2
            have hf1 : Off F (.slice va1 LA.length va2) := Off.new hO1 hltF.out
            have hf2 : Off F (.slice vb1 LB.length vb2) := Off.new hO2 (fun k e => Nat.lt_of_lt_of_le (hltF.out k e) hb1.size)
            have hT := hid (fun q (h : q < LA.length) => linkL_take h fl LB)
            have hEE : Hid (linkL fl LB (LA.take LA.length) = linkL fl LB LA) := hid (by rw [List.take_length])
            have hrw := hid hR2.out.lk.row
            have hlt2 := hid hR2.out.lk.lt
            have hAk := hid (fun u (hu : Kept (fun k => (Value.slice gva (nS [t]) gvc).ownBlock = some k) w2 u) => hN1.kept hu (fun ad n c e h0 hk => hf1 ad n c e h0 (hrw.out _ hk).1))
            have hbk := hid (fun u (hu : Kept (fun k => (Value.slice gva (nS [t]) gvc).ownBlock = some k) w2 u) => hN2.kept hu (fun ad n c e h0 hk => hf2 ad n c e h0 (hrw.out _ hk).1))
            have hof := hid hf1
            have hla' := hid (fun q (h : q < LA.length) => hIA LA[q] (List.getElem_mem h))
            have GU := hid (fun v q u (hl : q.length ≤ 60) (h1 : Nums u v q) h2 => refUnion v (.slice vb1 LB.length vb2) q LB u (by omega) (by omega) h1 h2)
            have hIB' := hid hIB
            have hN60 : nS [t] ≤ 60 := hR2.out.lk.n60
            clear hO1 hO2 hN1 hN2 hf1 hf2 hb1 hb2 hb12 hIA hIB GLa GFb GFr hR hPq hbl
            go_loopw [9] (fun i wr => ∃ (q : Nat) (gs' : List Value), q ≤ LA.length ∧ i = .int .i64 q ∧ Hid (LkS F pb pb (.slice gva (nS [t]) gvc) (nS [t]) wr gs' (linkL fl LB (LA.take q))) ∧ Kept (fun k => (Value.slice gva (nS [t]) gvc).ownBlock = some k) w2 wr) (fun i _ => LA.length - (intOf i).toNat)
            case atStart => exact ⟨0, gs, Nat.zero_le _, rfl, hid hR2.out.lk, Kept.refl _ _⟩
            case round =>
              obtain ⟨q, gs', hq, rfl, hS, hkk⟩ := hrel
              by_cases hql : q < LA.length
              · have hqz : (q : Int) < (LA.length : Int) := by omega
                obtain ⟨_, _, e0, _, _, hat⟩ := hAk.out wr hkk
                cases e0
                obtain ⟨b1, o1, rfl, hb1, c1⟩ := hat q hql
                obtain ⟨h0, h1⟩ := hla'.out q hql
                have hT1 := hid (hT.out q hql)
                obtain ⟨m, hm⟩ : ∃ m : Nat, LA[q] = (m : Int) := ⟨LA[q].toNat, by omega⟩
                rw [hm] at c1 h1 hT1
                have hmn : m < gs'.length := by rw [hS.out.len]; omega
                simp only [Int.toNat_natCast] at hT1
                have hown : Hid (wr.ownsRow pb 23 1 (.slice gva (nS [t]) gvc) gs'.length gs') := hid hS.out.own
                obtain ⟨g, cap, he, hcap⟩ := own_form hown.out (by omega)
                injection he with he1 he2 he3
                subst he1
                subst he3
                have hown : Hid (wr.ownsRow pb 23 1 (.slice (some ⟨g, 0, none⟩) gs'.length gvc) gs'.length gs') := hid (by rw [← he2]; exact he2 ▸ hown.out)
                have hgF := hrw.out g rfl
                have c2 : wr.drew.cell? ⟨g, m, none⟩ = some gs'[m] := (hown.out.cellAt m (by omega)).trans (List.getElem?_eq_getElem hmn)
                have d4 : wr.drew.cell? ⟨pb, 4, none⟩ = _ := hS.out.p
                have hx := hS.out.nums.2 m
                have hxe : gs'.getD m nilV = gs'[m] := by rw [List.getD_eq_getElem?_getD, List.getElem?_eq_getElem hmn]; rfl
                rw [hxe] at hx
                have hne : pb ≠ g := fun e => hgF.2 e.symm
                have hnb1 : b1 ≠ g := fun e => hof.out _ _ _ rfl (by omega) (by rw [e]; exact hgF.1)
                have hlen2 : ((linkL fl LB (LA.take q)).getD m []).length ≤ 60 := Nat.le_trans (inN_len (hS.out.good m).1 (hS.out.good m).2) hN60
                have hdw := hid ((Below.refl wr.heap.size wr).drew)
                have GU0 := hid (GU.out gs'[m] _ wr.drew hlen2 (hx.1.keep hdw.out) ((hbk.out wr hkk).keep hdw.out))
                have hmz : (m : Int) < ((nS [t] : Nat) : Int) := by omega
                have hm0 : (0 : Int) ≤ (m : Int) := by omega
                have hnxt : Hid (∀ v1 w1, Own w1 wr.heap.size v1 (unionL ((linkL fl LB (LA.take q)).getD m []) LB) → Below wr.heap.size wr w1 → ∃ gs2, Hid (LkS F pb pb (.slice (some ⟨g, 0, none⟩) (nS [t]) gvc) (nS [t]) (w1.setCell ⟨g, m, none⟩ v1) gs2 (linkL fl LB (LA.take (q + 1)))) ∧ Kept (fun k => (Value.slice (some ⟨g, 0, none⟩) (nS [t]) gvc).ownBlock = some k) w2 (w1.setCell ⟨g, m, none⟩ v1)) := hid (fun v1 w1 ho hbe => by
                  have hS1 := hS.out.keep hbe
                  have hst := (own_below hown.out hbe).stored m v1
                  have hl2 : (gs'.set m v1).length = gs'.length := by simp
                  have hkg := Kept.of_grown hst.2
                  have hkF : Kept F w1 (w1.setCell ⟨g, m, none⟩ v1) := hkg.mono fun k _ e => by injection e with e; rw [← e]; exact hgF.1
                  refine ⟨gs'.set m v1, hid ⟨Nat.le_trans hS1.base hkg.size, fun k e => Nat.lt_of_lt_of_le (hS1.lt k e) hkg.size, hS1.row, hS1.inF, hkg.cell hS1.p (hS1.lt _ hS1.inF) (fun e => by injection e with e; exact hne e.symm), ?_, ?_, by rw [hl2]; exact hS1.len, hS1.n60, fun j => ?_⟩, ?_⟩
                  · rw [hl2, ← hS1.len]; exact hst.1
                  · rw [hT1.out]
                    exact ((hS1.nums).set (Nums.of_row ho) (Off.new ho hS.out.lt) m).kept hkF
                  · rw [hT1.out, getD_set]
                    split
                    · refine ⟨ofL_up _, fun y hy => ?_⟩
                      rcases (unionL_mem _ _ y).1 hy with hy | hy
                      · exact (hS.out.good m).2 y hy
                      · exact hIB'.out y hy
                    · exact hS.out.good j
                  · exact (hkk.step (Kept.of_below hbe) (fun k hk h => h)).setCell (fun _ => rfl))
                have hfk := hid (fun w1 (hbe : Below wr.heap.size wr w1) => (own_below hown.out hbe).frozenAt m)
                have hck : Hid (∀ w1, Below wr.heap.size wr w1 → w1.cell? ⟨g, m, none⟩ = some gs'[m]) := hid (fun w1 hbe => ((own_below hown.out hbe).cellAt m (by omega)).trans (List.getElem?_eq_getElem hmn))
                generalize unionL ((linkL fl LB (LA.take q)).getD m []) LB = U at hnxt GU0 hT1
                clear hxe
                generalize gs'[m] = X at c2 hx GU0 hck
                clear hat hx hT1 hown hlen2 hm h0 hT hla' hAk hbk GU hS
                go_wp2_with fail
                refine wp_region_held_drew (S := fun w' => w'.cell? ⟨pb, 4, none⟩ = some (.slice (some ⟨g, 0, none⟩) (nS [t]) gvc) ∧ w'.cell? ⟨b1, o1 + q, none⟩ = some (.int .i64 (m : Int))) (by kernel_rfl) ⟨d4, c1⟩ (fun hHeld => ?_)
                refine wpAnyH_take (i := 0) (oi := { dst := some 104, op := .fieldAddr 64 (.tmp 3) 4, type := 0, pos := "ref.go:90", after := #[], guard := none }) (v := ?_) rfl (by kernel_rfl) (by kernel_rfl) (by kernel_rfl) (fun _ _ _ h => h) (Or.inl ⟨by rfl, ?_⟩) (by assumption) ?_
                rotate_left
                · (intro w hSw; (try dsimp only at hSw); go_simp; try with_reducible rfl)
                try simp only [Act.put, List.setIfInBounds_toArray, List.set_cons_zero, List.set_cons_succ]
                refine wpAnyH_take (i := 1) (oi := { dst := some 105, op := .load 22 (.tmp 104), type := 22, pos := "ref.go:90", after := #[{ on := 0, ground := .data }], guard := none }) (v := ?_) rfl (by kernel_rfl) (by kernel_rfl) (by kernel_rfl) (fun _ _ _ h => h) (Or.inl ⟨by rfl, ?_⟩) (by assumption) ?_
                rotate_left
                · (intro w hSw; (try dsimp only at hSw); go_simp; try with_reducible rfl)
                try simp only [Act.put, List.setIfInBounds_toArray, List.set_cons_zero, List.set_cons_succ]
                refine wpAnyH_take (i := 2) (oi := { dst := some 106, op := .move (.tmp 7), type := 23, pos := "ref.go:90", after := #[], guard := none }) (v := ?_) rfl (by kernel_rfl) (by kernel_rfl) (by kernel_rfl) (fun _ _ _ h => h) (Or.inl ⟨by rfl, ?_⟩) (by assumption) ?_
                rotate_left
                · (intro w hSw; (try dsimp only at hSw); go_simp; try with_reducible rfl)
                try simp only [Act.put, List.setIfInBounds_toArray, List.set_cons_zero, List.set_cons_succ]
                refine wpAnyH_take (i := 3) (oi := { dst := some 107, op := .move (.tmp 9), type := 3, pos := "ref.go:90", after := #[], guard := none }) (v := ?_) rfl (by kernel_rfl) (by kernel_rfl) (by kernel_rfl) (fun _ _ _ h => h) (Or.inl ⟨by rfl, ?_⟩) (by assumption) ?_
                rotate_left
                · (intro w hSw; (try dsimp only at hSw); go_simp; try with_reducible rfl)
                try simp only [Act.put, List.setIfInBounds_toArray, List.set_cons_zero, List.set_cons_succ]
                refine wpAnyH_take (i := 4) (oi := { dst := some 108, op := .indexAddr 23 (.tmp 106) (.tmp 107), type := 0, pos := "ref.go:90", after := #[{ on := 2, ground := .data }, { on := 3, ground := .data }], guard := none }) (v := ?_) rfl (by kernel_rfl) (by kernel_rfl) (by kernel_rfl) (fun _ _ _ h => h) (Or.inl ⟨by rfl, ?_⟩) (by assumption) ?_
                rotate_left
                · (intro w hSw; (try dsimp only at hSw); go_simp; try with_reducible rfl)
                try simp only [Act.put, List.setIfInBounds_toArray, List.set_cons_zero, List.set_cons_succ]
                refine wpAnyH_take (i := 5) (oi := { dst := some 109, op := .load 3 (.tmp 108), type := 3, pos := "ref.go:90", after := #[{ on := 4, ground := .data }], guard := none }) (v := ?_) rfl (by kernel_rfl) (by kernel_rfl) (by kernel_rfl) (fun _ _ _ h => h) (Or.inl ⟨by rfl, ?_⟩) (by assumption) ?_
                rotate_left
                · (intro w hSw; (try dsimp only at hSw); go_simp; try with_reducible rfl)
                try simp only [Act.put, List.setIfInBounds_toArray, List.set_cons_zero, List.set_cons_succ]
                refine wpAnyH_take (i := 6) (oi := { dst := some 110, op := .fieldAddr 64 (.tmp 3) 4, type := 0, pos := "ref.go:90", after := #[], guard := none }) (v := ?_) rfl (by kernel_rfl) (by kernel_rfl) (by kernel_rfl) (fun _ _ _ h => h) (Or.inl ⟨by rfl, ?_⟩) (by assumption) ?_
                rotate_left
                · (intro w hSw; (try dsimp only at hSw); go_simp; try with_reducible rfl)
                try simp only [Act.put, List.setIfInBounds_toArray, List.set_cons_zero, List.set_cons_succ]
                refine wpAnyH_take (i := 7) (oi := { dst := some 111, op := .load 22 (.tmp 110), type := 22, pos := "ref.go:90", after := #[{ on := 6, ground := .data }], guard := none }) (v := ?_) rfl (by kernel_rfl) (by kernel_rfl) (by kernel_rfl) (fun _ _ _ h => h) (Or.inl ⟨by rfl, ?_⟩) (by assumption) ?_
                rotate_left
                · (intro w hSw; (try dsimp only at hSw); go_simp; try with_reducible rfl)
                try simp only [Act.put, List.setIfInBounds_toArray, List.set_cons_zero, List.set_cons_succ]
                refine wpAnyH_take (i := 8) (oi := { dst := some 112, op := .move (.tmp 7), type := 23, pos := "ref.go:90", after := #[], guard := none }) (v := ?_) rfl (by kernel_rfl) (by kernel_rfl) (by kernel_rfl) (fun _ _ _ h => h) (Or.inl ⟨by rfl, ?_⟩) (by assumption) ?_
                rotate_left
                · (intro w hSw; (try dsimp only at hSw); go_simp; try with_reducible rfl)
                try simp only [Act.put, List.setIfInBounds_toArray, List.set_cons_zero, List.set_cons_succ]
                refine wpAnyH_take (i := 9) (oi := { dst := some 113, op := .move (.tmp 9), type := 3, pos := "ref.go:90", after := #[], guard := none }) (v := ?_) rfl (by kernel_rfl) (by kernel_rfl) (by kernel_rfl) (fun _ _ _ h => h) (Or.inl ⟨by rfl, ?_⟩) (by assumption) ?_
                rotate_left
                · (intro w hSw; (try dsimp only at hSw); go_simp; try with_reducible rfl)
                try simp only [Act.put, List.setIfInBounds_toArray, List.set_cons_zero, List.set_cons_succ]
                refine wpAnyH_take (i := 10) (oi := { dst := some 114, op := .indexAddr 23 (.tmp 112) (.tmp 113), type := 0, pos := "ref.go:90", after := #[{ on := 8, ground := .data }, { on := 9, ground := .data }], guard := none }) (v := ?_) rfl (by kernel_rfl) (by kernel_rfl) (by kernel_rfl) (fun _ _ _ h => h) (Or.inl ⟨by rfl, ?_⟩) (by assumption) ?_
                rotate_left
                · (intro w hSw; (try dsimp only at hSw); go_simp; try with_reducible rfl)
                try simp only [Act.put, List.setIfInBounds_toArray, List.set_cons_zero, List.set_cons_succ]
                refine wpAnyH_take (i := 11) (oi := { dst := some 115, op := .load 3 (.tmp 114), type := 3, pos := "ref.go:90", after := #[{ on := 10, ground := .data }], guard := none }) (v := ?_) rfl (by kernel_rfl) (by kernel_rfl) (by kernel_rfl) (fun _ _ _ h => h) (Or.inl ⟨by rfl, ?_⟩) (by assumption) ?_
                rotate_left
                · (intro w hSw; (try dsimp only at hSw); go_simp; try with_reducible rfl)
                try simp only [Act.put, List.setIfInBounds_toArray, List.set_cons_zero, List.set_cons_succ]
                refine wpAnyH_take (i := 12) (oi := { dst := some 116, op := .indexAddr 22 (.tmp 111) (.tmp 115), type := 0, pos := "ref.go:90", after := #[{ on := 7, ground := .data }, { on := 11, ground := .data }], guard := none }) (v := ?_) rfl (by kernel_rfl) (by kernel_rfl) (by kernel_rfl) (fun _ _ _ h => h) (Or.inl ⟨by rfl, ?_⟩) (by assumption) ?_
                rotate_left
                · (intro w hSw; (try dsimp only at hSw); go_simp; try with_reducible rfl)
                try simp only [Act.put, List.setIfInBounds_toArray, List.set_cons_zero, List.set_cons_succ]
                refine wpAnyH_take (i := 14) (oi := { dst := some 118, op := .move (.tmp 8), type := 23, pos := "ref.go:90", after := #[], guard := none }) (v := ?_) rfl (by kernel_rfl) (by kernel_rfl) (by kernel_rfl) (fun _ _ _ h => h) (Or.inl ⟨by rfl, ?_⟩) (by assumption) ?_
                rotate_left
                · (intro w hSw; (try dsimp only at hSw); go_simp; try with_reducible rfl)
                try simp only [Act.put, List.setIfInBounds_toArray, List.set_cons_zero, List.set_cons_succ]
                refine wpAnyH_ready (rs := [13]) (by kernel_rfl) (by simp) ?_
                refine AllReadyH.cons (o := { dst := some 117, op := .load 23 (.tmp 116), type := 23, pos := "ref.go:90", after := #[{ on := 12, ground := .data }], guard := none }) rfl (fun K hK => ?_) AllReadyH.nil
                go_simp
                refine hK.out _ _ ⟨d4, c1⟩ (fun hHeld2 => ?_)
                clear hK K hHeld
                try simp only [Act.put, List.setIfInBounds_toArray, List.set_cons_zero, List.set_cons_succ]
                refine wpAnyH_ready (rs := [15]) (by kernel_rfl) (by simp) ?_
                refine AllReadyH.cons (o := { dst := some 119, op := .call { callee := .value (.func 54), args := #[.tmp 117, .tmp 118], argTypes := #[23, 23] }, type := 23, pos := "ref.go:90", after := #[{ on := 13, ground := .data }, { on := 14, ground := .data }], guard := none }) rfl (fun K hK => ?_) AllReadyH.nil
                refine step_call (by rfl) 54 #[X, .slice vb1 LB.length vb2] (by (go_simp; done)) GU0.out ?_
                rintro e w3 ⟨v3, rfl, hO3, hbe0⟩
                obtain ⟨a3, cc3, rfl, hx3⟩ := id (Nums.of_row hO3)
                clear hx3
                have hbe := bl_step hdw.out hbe0
                have f3 := hfk.out w3 hbe
                have c3 := hck.out w3 hbe
                have d5 := keep_cell hbe0 d4
                have c4 := keep_cell hbe0 c1
                have d6 := set_keep (v := .slice a3 U.length cc3) m d5 hne
                have c6 := set_keep (v := .slice a3 U.length cc3) m c4 hnb1
                refine ⟨_, rfl, hK.out _ _ ⟨d5, c4⟩ (fun hHeld => ?_)⟩
                clear hK K hHeld2
                try simp only [Act.put, List.setIfInBounds_toArray, List.set_cons_zero, List.set_cons_succ]
                refine wpAnyH_take (i := 16) (oi := { dst := some 120, op := .indexAddr 22 (.tmp 105) (.tmp 109), type := 0, pos := "ref.go:90", after := #[{ on := 1, ground := .data }, { on := 5, ground := .data }, { on := 0, ground := .phase }, { on := 1, ground := .phase }, { on := 2, ground := .phase }, { on := 3, ground := .phase }, { on := 4, ground := .phase }, { on := 5, ground := .phase }, { on := 6, ground := .phase }, { on := 7, ground := .phase }, { on := 8, ground := .phase }, { on := 9, ground := .phase }, { on := 10, ground := .phase }, { on := 11, ground := .phase }, { on := 12, ground := .phase }, { on := 13, ground := .phase }, { on := 14, ground := .phase }, { on := 15, ground := .phase }], guard := none }) (v := ?_) rfl (by kernel_rfl) (by kernel_rfl) (by kernel_rfl) (fun _ _ _ h => h) (Or.inl ⟨by rfl, ?_⟩) (by assumption) ?_
                rotate_left
                · (intro w hSw; (try dsimp only at hSw); go_simp; try with_reducible rfl)
                try simp only [Act.put, List.setIfInBounds_toArray, List.set_cons_zero, List.set_cons_succ]
                refine wpAnyH_ready (rs := [17]) (by kernel_rfl) (by simp) ?_
                refine AllReadyH.cons (o := { dst := none, op := .store 23 (.tmp 120) (.tmp 119), type := 0, pos := "ref.go:90", after := #[{ on := 16, ground := .data }, { on := 15, ground := .data }, { on := 15, ground := .chain }, { on := 0, ground := .phase }, { on := 1, ground := .phase }, { on := 2, ground := .phase }, { on := 3, ground := .phase }, { on := 4, ground := .phase }, { on := 5, ground := .phase }, { on := 6, ground := .phase }, { on := 7, ground := .phase }, { on := 8, ground := .phase }, { on := 9, ground := .phase }, { on := 10, ground := .phase }, { on := 11, ground := .phase }, { on := 12, ground := .phase }, { on := 13, ground := .phase }, { on := 14, ground := .phase }, { on := 15, ground := .phase }], guard := none }) rfl (fun K hK => ?_) AllReadyH.nil
                go_simp
                refine hK.out _ _ ⟨d6, c6⟩ (fun hHeld2 => ?_)
                refine wpAnyH_done (by kernel_rfl) ?_ _
                clear hK K hHeld
                try simp only [Act.put, List.setIfInBounds_toArray, List.set_cons_zero, List.set_cons_succ]
                obtain ⟨gs2, z1, z2⟩ := hnxt.out _ w3 hO3 hbe
                go_wp2
                go_roundw
                case rel => exact ⟨q + 1, gs2, by omega, by go_num, z1, z2⟩
                case measure => simp [intOf]; omega
              · have hqz : ¬ (q : Int) < (LA.length : Int) := by omega
                obtain rfl : q = LA.length := by omega
                rw [hEE.out] at hS
                have hR3 := hid (hR2.out.linked hkk hS.out)
                have hPq3 := hid (hPq2.out.kept (hkk.mono fun k _ e => (hrw.out k e).1))
                have hB3 := hid (hB2.out.trans (hkk.below (fun k e => (hR2.out.lk.own.lt k e).1) hR2.out.lk.base))
                go_wp2
                go_roundw
                case rel => exact ⟨k + 1, gs', _, by omega, by go_num, hR3, hPq3, hF2, hB3.out⟩
                case measure => simp [intOf]; omega
          · skip
            obtain ⟨b, a, r, rfl⟩ := two_top (by rw [hwo] at hw; exact hw.2)
            have hF2 : Hid (FolOK (FolS (stK l (k + 1))) (nS [t]) fl) := hid (by rw [hsu.out]; exact hFol.out.congr fun j k _ => by simp only [stepS]; exact (folS_or a b r j k).symm)
            obtain ⟨wo, hwo2⟩ : ∃ x, x = wr := ⟨_, rfl⟩
            subst hwo2
            subst hav
            go_wp2
            go_loopw [9] (fun i wr2 => i = .int .i64 0 ∧ Hid (wr2 = wo)) (fun _ _ => 0)
            case atStart => exact ⟨rfl, hid rfl⟩
            case round =>
              obtain ⟨rfl, hwr⟩ := hrel
              have hwr' := hwr.out
              subst hwr'
              go_wp2
              go_roundw
              case rel => exact ⟨k + 1, gs, fl, by omega, by go_num, hR, hPq, hF2, hbl⟩
              case measure => simp [intOf]; omega
          · obtain ⟨a, r, rfl⟩ := one_top (by rw [hwo] at hw; exact hw.2)
            have hsp : l = lain r ++ (post a ++ l.drop k) := by
              conv => lhs; rw [← List.take_append_drop k l, ← hla1.out]
              simp [lain]
            have hlen : (lain r).length + (post a).length = k := by
              have h := congrArg List.length hla1.out
              rw [List.length_take] at h
              simp [lain] at h
              omega
            have hpa := post_pos a
            have hE2 : ((k : Int) - 1) + 1 = (((lain r).length + (post a).length : Nat) : Int) := by omega
            have GLa := hid (lastLC a (.slice av l.length cv) l (lain r) (l.drop k) ((k : Int) - 1) wr hcel.out h60 hsp hE2)
            have GFb := hid (fun u (hu : Below wr.heap.size wr u) => firstLC a (.slice av l.length cv) l (lain r) (l.drop k) ((k : Int) - 1) u (hcel.out.keep hu) h60 hsp hE2)
            rw [numS_lain] at GLa GFb
            have hF2 : Hid (FolOK (FolS (stK l (k + 1))) (nS [t]) (linkL fl (firstL a (nS r)) (lastL a (nS r)))) := hid (by
              rw [hsu.out]
              exact ((hFol.out.link (lastL_mem a (nS r)) (fun k hk => by have := lst_in a _ k hk; have h2 : nS r + nSets a = nS (a :: r) := rfl; omega) (firstL_mem a (nS r))).congr fun j k _ => (folS_star a r j k).symm))
            have hnab : nS r + nSets a = nS (a :: r) := rfl
            have hIA : InN (lastL a (nS r)) (nS [t]) := lastL_in a _ _ (by omega)
            have hIB : InN (firstL a (nS r)) (nS [t]) := firstL_in a _ _ (by omega)
            have hLA : (lastL a (nS r)).length ≤ 60 := Nat.le_trans (lastL_len a _) (by have := hnk.1; omega)
            have hLB : (firstL a (nS r)).length ≤ 60 := Nat.le_trans (firstL_len a _) (by have := hnk.1; omega)
            generalize lastL a (nS r) = LA at *
            generalize firstL a (nS r) = LB at *
            have hk1 : 1 ≤ k := by omega
            subst hav
            obtain ⟨wo, hwo2⟩ : ∃ x, x = wr := ⟨_, rfl⟩
            subst hwo2
            have hwk : IntKind.i64.wrap ((k : Int) - 1) = (k : Int) - 1 := by rw [IntKind.wrap_i64]; omega
            clear hsu hla1 hlen hsp  hcel hE2 
            go_wp2_with (first
              | (go_at_call 51; refine (GFb.out w1 hb1).mono ?_; rintro e w2 ⟨v2, rfl, hO2, hb2⟩; have e0 := keep_cell (bl_step hb1 hb2) d0)
              | (go_at_call 52; refine GLa.out.mono ?_; rintro e w1 ⟨v1, rfl, hO1, hb1⟩))
            obtain ⟨va1, va2, rfl, hxa⟩ := id (Nums.of_row hO1)
            obtain ⟨vb1, vb2, rfl, hxb⟩ := id (Nums.of_row hO2)
            clear hxa hxb
            have hb12 := bl_step hb1 hb2
            have hR2 := hid (hR.out.keep hb12)
            have hPq2 := hid (hPq.out.keep hb12)
            have hB2 := hid (bstep hbl hb12 hpw.out)
            have hN1 : Nums w2 (.slice va1 LA.length va2) LA := (Nums.of_row hO1).keep hb2
            have hN2 : Nums w2 (.slice vb1 LB.length vb2) LB := Nums.of_row hO2
            have hf1 : Off F (.slice va1 LA.length va2) := Off.new hO1 hltF.out
            have hf2 : Off F (.slice vb1 LB.length vb2) := Off.new hO2 (fun k e => Nat.lt_of_lt_of_le (hltF.out k e) hb1.size)
            have hT := hid (fun q (h : q < LA.length) => linkL_take h fl LB)
            have hEE : Hid (linkL fl LB (LA.take LA.length) = linkL fl LB LA) := hid (by rw [List.take_length])
            have hrw := hid hR2.out.lk.row
            have hlt2 := hid hR2.out.lk.lt
            have hAk := hid (fun u (hu : Kept (fun k => (Value.slice gva (nS [t]) gvc).ownBlock = some k) w2 u) => hN1.kept hu (fun ad n c e h0 hk => hf1 ad n c e h0 (hrw.out _ hk).1))
            have hbk := hid (fun u (hu : Kept (fun k => (Value.slice gva (nS [t]) gvc).ownBlock = some k) w2 u) => hN2.kept hu (fun ad n c e h0 hk => hf2 ad n c e h0 (hrw.out _ hk).1))
            have hof := hid hf1
            have hla' := hid (fun q (h : q < LA.length) => hIA LA[q] (List.getElem_mem h))
            have GU := hid (fun v q u (hl : q.length ≤ 60) (h1 : Nums u v q) h2 => refUnion v (.slice vb1 LB.length vb2) q LB u (by omega) (by omega) h1 h2)
            have hIB' := hid hIB
            have hN60 : nS [t] ≤ 60 := hR2.out.lk.n60
            clear hO1 hO2 hN1 hN2 hf1 hf2 hb1 hb2 hb12 hIA hIB GLa GFb  hR hPq hbl
            go_loopw [9] (fun i wr => ∃ (q : Nat) (gs' : List Value), q ≤ LA.length ∧ i = .int .i64 q ∧ Hid (LkS F pb pb (.slice gva (nS [t]) gvc) (nS [t]) wr gs' (linkL fl LB (LA.take q))) ∧ Kept (fun k => (Value.slice gva (nS [t]) gvc).ownBlock = some k) w2 wr) (fun i _ => LA.length - (intOf i).toNat)
            case atStart => exact ⟨0, gs, Nat.zero_le _, rfl, hid hR2.out.lk, Kept.refl _ _⟩
            case round =>
              obtain ⟨q, gs', hq, rfl, hS, hkk⟩ := hrel
              by_cases hql : q < LA.length
              · have hqz : (q : Int) < (LA.length : Int) := by omega
                obtain ⟨_, _, e0, _, _, hat⟩ := hAk.out wr hkk
                cases e0
                obtain ⟨b1, o1, rfl, hb1, c1⟩ := hat q hql
                obtain ⟨h0, h1⟩ := hla'.out q hql
                have hT1 := hid (hT.out q hql)
                obtain ⟨m, hm⟩ : ∃ m : Nat, LA[q] = (m : Int) := ⟨LA[q].toNat, by omega⟩
                rw [hm] at c1 h1 hT1
                have hmn : m < gs'.length := by rw [hS.out.len]; omega
                simp only [Int.toNat_natCast] at hT1
                have hown : Hid (wr.ownsRow pb 23 1 (.slice gva (nS [t]) gvc) gs'.length gs') := hid hS.out.own
                obtain ⟨g, cap, he, hcap⟩ := own_form hown.out (by omega)
                injection he with he1 he2 he3
                subst he1
                subst he3
                have hown : Hid (wr.ownsRow pb 23 1 (.slice (some ⟨g, 0, none⟩) gs'.length gvc) gs'.length gs') := hid (by rw [← he2]; exact he2 ▸ hown.out)
                have hgF := hrw.out g rfl
                have c2 : wr.drew.cell? ⟨g, m, none⟩ = some gs'[m] := (hown.out.cellAt m (by omega)).trans (List.getElem?_eq_getElem hmn)
                have d4 : wr.drew.cell? ⟨pb, 4, none⟩ = _ := hS.out.p
                have hx := hS.out.nums.2 m
                have hxe : gs'.getD m nilV = gs'[m] := by rw [List.getD_eq_getElem?_getD, List.getElem?_eq_getElem hmn]; rfl
                rw [hxe] at hx
                have hne : pb ≠ g := fun e => hgF.2 e.symm
                have hnb1 : b1 ≠ g := fun e => hof.out _ _ _ rfl (by omega) (by rw [e]; exact hgF.1)
                have hlen2 : ((linkL fl LB (LA.take q)).getD m []).length ≤ 60 := Nat.le_trans (inN_len (hS.out.good m).1 (hS.out.good m).2) hN60
                have hdw := hid ((Below.refl wr.heap.size wr).drew)
                have GU0 := hid (GU.out gs'[m] _ wr.drew hlen2 (hx.1.keep hdw.out) ((hbk.out wr hkk).keep hdw.out))
                have hmz : (m : Int) < ((nS [t] : Nat) : Int) := by omega
                have hm0 : (0 : Int) ≤ (m : Int) := by omega
                have hnxt : Hid (∀ v1 w1, Own w1 wr.heap.size v1 (unionL ((linkL fl LB (LA.take q)).getD m []) LB) → Below wr.heap.size wr w1 → ∃ gs2, Hid (LkS F pb pb (.slice (some ⟨g, 0, none⟩) (nS [t]) gvc) (nS [t]) (w1.setCell ⟨g, m, none⟩ v1) gs2 (linkL fl LB (LA.take (q + 1)))) ∧ Kept (fun k => (Value.slice (some ⟨g, 0, none⟩) (nS [t]) gvc).ownBlock = some k) w2 (w1.setCell ⟨g, m, none⟩ v1)) := hid (fun v1 w1 ho hbe => by
                  have hS1 := hS.out.keep hbe
                  have hst := (own_below hown.out hbe).stored m v1
                  have hl2 : (gs'.set m v1).length = gs'.length := by simp
                  have hkg := Kept.of_grown hst.2
                  have hkF : Kept F w1 (w1.setCell ⟨g, m, none⟩ v1) := hkg.mono fun k _ e => by injection e with e; rw [← e]; exact hgF.1
                  refine ⟨gs'.set m v1, hid ⟨Nat.le_trans hS1.base hkg.size, fun k e => Nat.lt_of_lt_of_le (hS1.lt k e) hkg.size, hS1.row, hS1.inF, hkg.cell hS1.p (hS1.lt _ hS1.inF) (fun e => by injection e with e; exact hne e.symm), ?_, ?_, by rw [hl2]; exact hS1.len, hS1.n60, fun j => ?_⟩, ?_⟩
                  · rw [hl2, ← hS1.len]; exact hst.1
                  · rw [hT1.out]
                    exact ((hS1.nums).set (Nums.of_row ho) (Off.new ho hS.out.lt) m).kept hkF
                  · rw [hT1.out, getD_set]
                    split
                    · refine ⟨ofL_up _, fun y hy => ?_⟩
                      rcases (unionL_mem _ _ y).1 hy with hy | hy
                      · exact (hS.out.good m).2 y hy
                      · exact hIB'.out y hy
                    · exact hS.out.good j
                  · exact (hkk.step (Kept.of_below hbe) (fun k hk h => h)).setCell (fun _ => rfl))
                have hfk := hid (fun w1 (hbe : Below wr.heap.size wr w1) => (own_below hown.out hbe).frozenAt m)
                have hck : Hid (∀ w1, Below wr.heap.size wr w1 → w1.cell? ⟨g, m, none⟩ = some gs'[m]) := hid (fun w1 hbe => ((own_below hown.out hbe).cellAt m (by omega)).trans (List.getElem?_eq_getElem hmn))
                generalize unionL ((linkL fl LB (LA.take q)).getD m []) LB = U at hnxt GU0 hT1
                clear hxe
                generalize gs'[m] = X at c2 hx GU0 hck
                clear hat hx hT1 hown hlen2 hm h0 hT hla' hAk hbk GU hS
                go_wp2_with fail
                refine wp_region_held_drew (S := fun w' => w'.cell? ⟨pb, 4, none⟩ = some (.slice (some ⟨g, 0, none⟩) (nS [t]) gvc) ∧ w'.cell? ⟨b1, o1 + q, none⟩ = some (.int .i64 (m : Int))) (by kernel_rfl) ⟨d4, c1⟩ (fun hHeld => ?_)
                refine wpAnyH_take (i := 0) (oi := { dst := some 104, op := .fieldAddr 64 (.tmp 3) 4, type := 0, pos := "ref.go:90", after := #[], guard := none }) (v := ?_) rfl (by kernel_rfl) (by kernel_rfl) (by kernel_rfl) (fun _ _ _ h => h) (Or.inl ⟨by rfl, ?_⟩) (by assumption) ?_
                rotate_left
                · (intro w hSw; (try dsimp only at hSw); go_simp; try with_reducible rfl)
                try simp only [Act.put, List.setIfInBounds_toArray, List.set_cons_zero, List.set_cons_succ]
                refine wpAnyH_take (i := 1) (oi := { dst := some 105, op := .load 22 (.tmp 104), type := 22, pos := "ref.go:90", after := #[{ on := 0, ground := .data }], guard := none }) (v := ?_) rfl (by kernel_rfl) (by kernel_rfl) (by kernel_rfl) (fun _ _ _ h => h) (Or.inl ⟨by rfl, ?_⟩) (by assumption) ?_
                rotate_left
                · (intro w hSw; (try dsimp only at hSw); go_simp; try with_reducible rfl)
                try simp only [Act.put, List.setIfInBounds_toArray, List.set_cons_zero, List.set_cons_succ]
                refine wpAnyH_take (i := 2) (oi := { dst := some 106, op := .move (.tmp 7), type := 23, pos := "ref.go:90", after := #[], guard := none }) (v := ?_) rfl (by kernel_rfl) (by kernel_rfl) (by kernel_rfl) (fun _ _ _ h => h) (Or.inl ⟨by rfl, ?_⟩) (by assumption) ?_
                rotate_left
                · (intro w hSw; (try dsimp only at hSw); go_simp; try with_reducible rfl)
                try simp only [Act.put, List.setIfInBounds_toArray, List.set_cons_zero, List.set_cons_succ]
                refine wpAnyH_take (i := 3) (oi := { dst := some 107, op := .move (.tmp 9), type := 3, pos := "ref.go:90", after := #[], guard := none }) (v := ?_) rfl (by kernel_rfl) (by kernel_rfl) (by kernel_rfl) (fun _ _ _ h => h) (Or.inl ⟨by rfl, ?_⟩) (by assumption) ?_
                rotate_left
                · (intro w hSw; (try dsimp only at hSw); go_simp; try with_reducible rfl)
                try simp only [Act.put, List.setIfInBounds_toArray, List.set_cons_zero, List.set_cons_succ]
                refine wpAnyH_take (i := 4) (oi := { dst := some 108, op := .indexAddr 23 (.tmp 106) (.tmp 107), type := 0, pos := "ref.go:90", after := #[{ on := 2, ground := .data }, { on := 3, ground := .data }], guard := none }) (v := ?_) rfl (by kernel_rfl) (by kernel_rfl) (by kernel_rfl) (fun _ _ _ h => h) (Or.inl ⟨by rfl, ?_⟩) (by assumption) ?_
                rotate_left
                · (intro w hSw; (try dsimp only at hSw); go_simp; try with_reducible rfl)
                try simp only [Act.put, List.setIfInBounds_toArray, List.set_cons_zero, List.set_cons_succ]
                refine wpAnyH_take (i := 5) (oi := { dst := some 109, op := .load 3 (.tmp 108), type := 3, pos := "ref.go:90", after := #[{ on := 4, ground := .data }], guard := none }) (v := ?_) rfl (by kernel_rfl) (by kernel_rfl) (by kernel_rfl) (fun _ _ _ h => h) (Or.inl ⟨by rfl, ?_⟩) (by assumption) ?_
                rotate_left
                · (intro w hSw; (try dsimp only at hSw); go_simp; try with_reducible rfl)
                try simp only [Act.put, List.setIfInBounds_toArray, List.set_cons_zero, List.set_cons_succ]
                refine wpAnyH_take (i := 6) (oi := { dst := some 110, op := .fieldAddr 64 (.tmp 3) 4, type := 0, pos := "ref.go:90", after := #[], guard := none }) (v := ?_) rfl (by kernel_rfl) (by kernel_rfl) (by kernel_rfl) (fun _ _ _ h => h) (Or.inl ⟨by rfl, ?_⟩) (by assumption) ?_
                rotate_left
                · (intro w hSw; (try dsimp only at hSw); go_simp; try with_reducible rfl)
                try simp only [Act.put, List.setIfInBounds_toArray, List.set_cons_zero, List.set_cons_succ]
                refine wpAnyH_take (i := 7) (oi := { dst := some 111, op := .load 22 (.tmp 110), type := 22, pos := "ref.go:90", after := #[{ on := 6, ground := .data }], guard := none }) (v := ?_) rfl (by kernel_rfl) (by kernel_rfl) (by kernel_rfl) (fun _ _ _ h => h) (Or.inl ⟨by rfl, ?_⟩) (by assumption) ?_
                rotate_left
                · (intro w hSw; (try dsimp only at hSw); go_simp; try with_reducible rfl)
                try simp only [Act.put, List.setIfInBounds_toArray, List.set_cons_zero, List.set_cons_succ]
                refine wpAnyH_take (i := 8) (oi := { dst := some 112, op := .move (.tmp 7), type := 23, pos := "ref.go:90", after := #[], guard := none }) (v := ?_) rfl (by kernel_rfl) (by kernel_rfl) (by kernel_rfl) (fun _ _ _ h => h) (Or.inl ⟨by rfl, ?_⟩) (by assumption) ?_
                rotate_left
                · (intro w hSw; (try dsimp only at hSw); go_simp; try with_reducible rfl)
                try simp only [Act.put, List.setIfInBounds_toArray, List.set_cons_zero, List.set_cons_succ]
                refine wpAnyH_take (i := 9) (oi := { dst := some 113, op := .move (.tmp 9), type := 3, pos := "ref.go:90", after := #[], guard := none }) (v := ?_) rfl (by kernel_rfl) (by kernel_rfl) (by kernel_rfl) (fun _ _ _ h => h) (Or.inl ⟨by rfl, ?_⟩) (by assumption) ?_
                rotate_left
                · (intro w hSw; (try dsimp only at hSw); go_simp; try with_reducible rfl)
                try simp only [Act.put, List.setIfInBounds_toArray, List.set_cons_zero, List.set_cons_succ]
                refine wpAnyH_take (i := 10) (oi := { dst := some 114, op := .indexAddr 23 (.tmp 112) (.tmp 113), type := 0, pos := "ref.go:90", after := #[{ on := 8, ground := .data }, { on := 9, ground := .data }], guard := none }) (v := ?_) rfl (by kernel_rfl) (by kernel_rfl) (by kernel_rfl) (fun _ _ _ h => h) (Or.inl ⟨by rfl, ?_⟩) (by assumption) ?_
                rotate_left
                · (intro w hSw; (try dsimp only at hSw); go_simp; try with_reducible rfl)
                try simp only [Act.put, List.setIfInBounds_toArray, List.set_cons_zero, List.set_cons_succ]
                refine wpAnyH_take (i := 11) (oi := { dst := some 115, op := .load 3 (.tmp 114), type := 3, pos := "ref.go:90", after := #[{ on := 10, ground := .data }], guard := none }) (v := ?_) rfl (by kernel_rfl) (by kernel_rfl) (by kernel_rfl) (fun _ _ _ h => h) (Or.inl ⟨by rfl, ?_⟩) (by assumption) ?_
                rotate_left
                · (intro w hSw; (try dsimp only at hSw); go_simp; try with_reducible rfl)
                try simp only [Act.put, List.setIfInBounds_toArray, List.set_cons_zero, List.set_cons_succ]
                refine wpAnyH_take (i := 12) (oi := { dst := some 116, op := .indexAddr 22 (.tmp 111) (.tmp 115), type := 0, pos := "ref.go:90", after := #[{ on := 7, ground := .data }, { on := 11, ground := .data }], guard := none }) (v := ?_) rfl (by kernel_rfl) (by kernel_rfl) (by kernel_rfl) (fun _ _ _ h => h) (Or.inl ⟨by rfl, ?_⟩) (by assumption) ?_
                rotate_left
                · (intro w hSw; (try dsimp only at hSw); go_simp; try with_reducible rfl)
                try simp only [Act.put, List.setIfInBounds_toArray, List.set_cons_zero, List.set_cons_succ]
                refine wpAnyH_take (i := 14) (oi := { dst := some 118, op := .move (.tmp 8), type := 23, pos := "ref.go:90", after := #[], guard := none }) (v := ?_) rfl (by kernel_rfl) (by kernel_rfl) (by kernel_rfl) (fun _ _ _ h => h) (Or.inl ⟨by rfl, ?_⟩) (by assumption) ?_
                rotate_left
                · (intro w hSw; (try dsimp only at hSw); go_simp; try with_reducible rfl)
                try simp only [Act.put, List.setIfInBounds_toArray, List.set_cons_zero, List.set_cons_succ]
                refine wpAnyH_ready (rs := [13]) (by kernel_rfl) (by simp) ?_
                refine AllReadyH.cons (o := { dst := some 117, op := .load 23 (.tmp 116), type := 23, pos := "ref.go:90", after := #[{ on := 12, ground := .data }], guard := none }) rfl (fun K hK => ?_) AllReadyH.nil
                go_simp
                refine hK.out _ _ ⟨d4, c1⟩ (fun hHeld2 => ?_)
                clear hK K hHeld
                try simp only [Act.put, List.setIfInBounds_toArray, List.set_cons_zero, List.set_cons_succ]
                refine wpAnyH_ready (rs := [15]) (by kernel_rfl) (by simp) ?_
                refine AllReadyH.cons (o := { dst := some 119, op := .call { callee := .value (.func 54), args := #[.tmp 117, .tmp 118], argTypes := #[23, 23] }, type := 23, pos := "ref.go:90", after := #[{ on := 13, ground := .data }, { on := 14, ground := .data }], guard := none }) rfl (fun K hK => ?_) AllReadyH.nil
                refine step_call (by rfl) 54 #[X, .slice vb1 LB.length vb2] (by (go_simp; done)) GU0.out ?_
                rintro e w3 ⟨v3, rfl, hO3, hbe0⟩
                obtain ⟨a3, cc3, rfl, hx3⟩ := id (Nums.of_row hO3)
                clear hx3
                have hbe := bl_step hdw.out hbe0
                have f3 := hfk.out w3 hbe
                have c3 := hck.out w3 hbe
                have d5 := keep_cell hbe0 d4
                have c4 := keep_cell hbe0 c1
                have d6 := set_keep (v := .slice a3 U.length cc3) m d5 hne
                have c6 := set_keep (v := .slice a3 U.length cc3) m c4 hnb1
                refine ⟨_, rfl, hK.out _ _ ⟨d5, c4⟩ (fun hHeld => ?_)⟩
                clear hK K hHeld2
                try simp only [Act.put, List.setIfInBounds_toArray, List.set_cons_zero, List.set_cons_succ]
                refine wpAnyH_take (i := 16) (oi := { dst := some 120, op := .indexAddr 22 (.tmp 105) (.tmp 109), type := 0, pos := "ref.go:90", after := #[{ on := 1, ground := .data }, { on := 5, ground := .data }, { on := 0, ground := .phase }, { on := 1, ground := .phase }, { on := 2, ground := .phase }, { on := 3, ground := .phase }, { on := 4, ground := .phase }, { on := 5, ground := .phase }, { on := 6, ground := .phase }, { on := 7, ground := .phase }, { on := 8, ground := .phase }, { on := 9, ground := .phase }, { on := 10, ground := .phase }, { on := 11, ground := .phase }, { on := 12, ground := .phase }, { on := 13, ground := .phase }, { on := 14, ground := .phase }, { on := 15, ground := .phase }], guard := none }) (v := ?_) rfl (by kernel_rfl) (by kernel_rfl) (by kernel_rfl) (fun _ _ _ h => h) (Or.inl ⟨by rfl, ?_⟩) (by assumption) ?_
                rotate_left
                · (intro w hSw; (try dsimp only at hSw); go_simp; try with_reducible rfl)
                try simp only [Act.put, List.setIfInBounds_toArray, List.set_cons_zero, List.set_cons_succ]
                refine wpAnyH_ready (rs := [17]) (by kernel_rfl) (by simp) ?_
                refine AllReadyH.cons (o := { dst := none, op := .store 23 (.tmp 120) (.tmp 119), type := 0, pos := "ref.go:90", after := #[{ on := 16, ground := .data }, { on := 15, ground := .data }, { on := 15, ground := .chain }, { on := 0, ground := .phase }, { on := 1, ground := .phase }, { on := 2, ground := .phase }, { on := 3, ground := .phase }, { on := 4, ground := .phase }, { on := 5, ground := .phase }, { on := 6, ground := .phase }, { on := 7, ground := .phase }, { on := 8, ground := .phase }, { on := 9, ground := .phase }, { on := 10, ground := .phase }, { on := 11, ground := .phase }, { on := 12, ground := .phase }, { on := 13, ground := .phase }, { on := 14, ground := .phase }, { on := 15, ground := .phase }], guard := none }) rfl (fun K hK => ?_) AllReadyH.nil
                go_simp
                refine hK.out _ _ ⟨d6, c6⟩ (fun hHeld2 => ?_)
                refine wpAnyH_done (by kernel_rfl) ?_ _
                clear hK K hHeld
                try simp only [Act.put, List.setIfInBounds_toArray, List.set_cons_zero, List.set_cons_succ]
                obtain ⟨gs2, z1, z2⟩ := hnxt.out _ w3 hO3 hbe
                go_wp2
                go_roundw
                case rel => exact ⟨q + 1, gs2, by omega, by go_num, z1, z2⟩
                case measure => simp [intOf]; omega
              · have hqz : ¬ (q : Int) < (LA.length : Int) := by omega
                obtain rfl : q = LA.length := by omega
                rw [hEE.out] at hS
                have hR3 := hid (hR2.out.linked hkk hS.out)
                have hPq3 := hid (hPq2.out.kept (hkk.mono fun k _ e => (hrw.out k e).1))
                have hB3 := hid (hB2.out.trans (hkk.below (fun k e => (hR2.out.lk.own.lt k e).1) hR2.out.lk.base))
                go_wp2
                go_roundw
                case rel => exact ⟨k + 1, gs', _, by omega, by go_num, hR3, hPq3, hF2, hB3.out⟩
                case measure => simp [intOf]; omega
          · obtain ⟨a, r, rfl⟩ := one_top (by rw [hwo] at hw; exact hw.2)
            have hsp : l = lain r ++ (post a ++ l.drop k) := by
              conv => lhs; rw [← List.take_append_drop k l, ← hla1.out]
              simp [lain]
            have hlen : (lain r).length + (post a).length = k := by
              have h := congrArg List.length hla1.out
              rw [List.length_take] at h
              simp [lain] at h
              omega
            have hpa := post_pos a
            have hE2 : ((k : Int) - 1) + 1 = (((lain r).length + (post a).length : Nat) : Int) := by omega
            have GLa := hid (lastLC a (.slice av l.length cv) l (lain r) (l.drop k) ((k : Int) - 1) wr hcel.out h60 hsp hE2)
            have GFb := hid (fun u (hu : Below wr.heap.size wr u) => firstLC a (.slice av l.length cv) l (lain r) (l.drop k) ((k : Int) - 1) u (hcel.out.keep hu) h60 hsp hE2)
            rw [numS_lain] at GLa GFb
            have hF2 : Hid (FolOK (FolS (stK l (k + 1))) (nS [t]) (linkL fl (firstL a (nS r)) (lastL a (nS r)))) := hid (by
              rw [hsu.out]
              exact ((hFol.out.link (lastL_mem a (nS r)) (fun k hk => by have := lst_in a _ k hk; have h2 : nS r + nSets a = nS (a :: r) := rfl; omega) (firstL_mem a (nS r))).congr fun j k _ => (folS_plus a r j k).symm))
            have hnab : nS r + nSets a = nS (a :: r) := rfl
            have hIA : InN (lastL a (nS r)) (nS [t]) := lastL_in a _ _ (by omega)
            have hIB : InN (firstL a (nS r)) (nS [t]) := firstL_in a _ _ (by omega)
            have hLA : (lastL a (nS r)).length ≤ 60 := Nat.le_trans (lastL_len a _) (by have := hnk.1; omega)
            have hLB : (firstL a (nS r)).length ≤ 60 := Nat.le_trans (firstL_len a _) (by have := hnk.1; omega)
            generalize lastL a (nS r) = LA at *
            generalize firstL a (nS r) = LB at *
            have hk1 : 1 ≤ k := by omega
            subst hav
            obtain ⟨wo, hwo2⟩ : ∃ x, x = wr := ⟨_, rfl⟩
            subst hwo2
            have hwk : IntKind.i64.wrap ((k : Int) - 1) = (k : Int) - 1 := by rw [IntKind.wrap_i64]; omega
            clear hsu hla1 hlen hsp  hcel hE2 
            go_wp2_with (first
              | (go_at_call 51; refine (GFb.out w1 hb1).mono ?_; rintro e w2 ⟨v2, rfl, hO2, hb2⟩; have e0 := keep_cell (bl_step hb1 hb2) d0)
              | (go_at_call 52; refine GLa.out.mono ?_; rintro e w1 ⟨v1, rfl, hO1, hb1⟩))
            obtain ⟨va1, va2, rfl, hxa⟩ := id (Nums.of_row hO1)
            obtain ⟨vb1, vb2, rfl, hxb⟩ := id (Nums.of_row hO2)
            clear hxa hxb
            have hb12 := bl_step hb1 hb2
            have hR2 := hid (hR.out.keep hb12)
            have hPq2 := hid (hPq.out.keep hb12)
            have hB2 := hid (bstep hbl hb12 hpw.out)
            have hN1 : Nums w2 (.slice va1 LA.length va2) LA := (Nums.of_row hO1).keep hb2
            have hN2 : Nums w2 (.slice vb1 LB.length vb2) LB := Nums.of_row hO2
            have hf1 : Off F (.slice va1 LA.length va2) := Off.new hO1 hltF.out
            have hf2 : Off F (.slice vb1 LB.length vb2) := Off.new hO2 (fun k e => Nat.lt_of_lt_of_le (hltF.out k e) hb1.size)
            have hT := hid (fun q (h : q < LA.length) => linkL_take h fl LB)
            have hEE : Hid (linkL fl LB (LA.take LA.length) = linkL fl LB LA) := hid (by rw [List.take_length])
            have hrw := hid hR2.out.lk.row
            have hlt2 := hid hR2.out.lk.lt
            have hAk := hid (fun u (hu : Kept (fun k => (Value.slice gva (nS [t]) gvc).ownBlock = some k) w2 u) => hN1.kept hu (fun ad n c e h0 hk => hf1 ad n c e h0 (hrw.out _ hk).1))
            have hbk := hid (fun u (hu : Kept (fun k => (Value.slice gva (nS [t]) gvc).ownBlock = some k) w2 u) => hN2.kept hu (fun ad n c e h0 hk => hf2 ad n c e h0 (hrw.out _ hk).1))
            have hof := hid hf1
            have hla' := hid (fun q (h : q < LA.length) => hIA LA[q] (List.getElem_mem h))
            have GU := hid (fun v q u (hl : q.length ≤ 60) (h1 : Nums u v q) h2 => refUnion v (.slice vb1 LB.length vb2) q LB u (by omega) (by omega) h1 h2)
            have hIB' := hid hIB
            have hN60 : nS [t] ≤ 60 := hR2.out.lk.n60
            clear hO1 hO2 hN1 hN2 hf1 hf2 hb1 hb2 hb12 hIA hIB GLa GFb  hR hPq hbl
            go_loopw [9] (fun i wr => ∃ (q : Nat) (gs' : List Value), q ≤ LA.length ∧ i = .int .i64 q ∧ Hid (LkS F pb pb (.slice gva (nS [t]) gvc) (nS [t]) wr gs' (linkL fl LB (LA.take q))) ∧ Kept (fun k => (Value.slice gva (nS [t]) gvc).ownBlock = some k) w2 wr) (fun i _ => LA.length - (intOf i).toNat)
            case atStart => exact ⟨0, gs, Nat.zero_le _, rfl, hid hR2.out.lk, Kept.refl _ _⟩
            case round =>
              obtain ⟨q, gs', hq, rfl, hS, hkk⟩ := hrel
              by_cases hql : q < LA.length
              · have hqz : (q : Int) < (LA.length : Int) := by omega
                obtain ⟨_, _, e0, _, _, hat⟩ := hAk.out wr hkk
                cases e0
                obtain ⟨b1, o1, rfl, hb1, c1⟩ := hat q hql
                obtain ⟨h0, h1⟩ := hla'.out q hql
                have hT1 := hid (hT.out q hql)
                obtain ⟨m, hm⟩ : ∃ m : Nat, LA[q] = (m : Int) := ⟨LA[q].toNat, by omega⟩
                rw [hm] at c1 h1 hT1
                have hmn : m < gs'.length := by rw [hS.out.len]; omega
                simp only [Int.toNat_natCast] at hT1
                have hown : Hid (wr.ownsRow pb 23 1 (.slice gva (nS [t]) gvc) gs'.length gs') := hid hS.out.own
                obtain ⟨g, cap, he, hcap⟩ := own_form hown.out (by omega)
                injection he with he1 he2 he3
                subst he1
                subst he3
                have hown : Hid (wr.ownsRow pb 23 1 (.slice (some ⟨g, 0, none⟩) gs'.length gvc) gs'.length gs') := hid (by rw [← he2]; exact he2 ▸ hown.out)
                have hgF := hrw.out g rfl
                have c2 : wr.drew.cell? ⟨g, m, none⟩ = some gs'[m] := (hown.out.cellAt m (by omega)).trans (List.getElem?_eq_getElem hmn)
                have d4 : wr.drew.cell? ⟨pb, 4, none⟩ = _ := hS.out.p
                have hx := hS.out.nums.2 m
                have hxe : gs'.getD m nilV = gs'[m] := by rw [List.getD_eq_getElem?_getD, List.getElem?_eq_getElem hmn]; rfl
                rw [hxe] at hx
                have hne : pb ≠ g := fun e => hgF.2 e.symm
                have hnb1 : b1 ≠ g := fun e => hof.out _ _ _ rfl (by omega) (by rw [e]; exact hgF.1)
                have hlen2 : ((linkL fl LB (LA.take q)).getD m []).length ≤ 60 := Nat.le_trans (inN_len (hS.out.good m).1 (hS.out.good m).2) hN60
                have hdw := hid ((Below.refl wr.heap.size wr).drew)
                have GU0 := hid (GU.out gs'[m] _ wr.drew hlen2 (hx.1.keep hdw.out) ((hbk.out wr hkk).keep hdw.out))
                have hmz : (m : Int) < ((nS [t] : Nat) : Int) := by omega
                have hm0 : (0 : Int) ≤ (m : Int) := by omega
                have hnxt : Hid (∀ v1 w1, Own w1 wr.heap.size v1 (unionL ((linkL fl LB (LA.take q)).getD m []) LB) → Below wr.heap.size wr w1 → ∃ gs2, Hid (LkS F pb pb (.slice (some ⟨g, 0, none⟩) (nS [t]) gvc) (nS [t]) (w1.setCell ⟨g, m, none⟩ v1) gs2 (linkL fl LB (LA.take (q + 1)))) ∧ Kept (fun k => (Value.slice (some ⟨g, 0, none⟩) (nS [t]) gvc).ownBlock = some k) w2 (w1.setCell ⟨g, m, none⟩ v1)) := hid (fun v1 w1 ho hbe => by
                  have hS1 := hS.out.keep hbe
                  have hst := (own_below hown.out hbe).stored m v1
                  have hl2 : (gs'.set m v1).length = gs'.length := by simp
                  have hkg := Kept.of_grown hst.2
                  have hkF : Kept F w1 (w1.setCell ⟨g, m, none⟩ v1) := hkg.mono fun k _ e => by injection e with e; rw [← e]; exact hgF.1
                  refine ⟨gs'.set m v1, hid ⟨Nat.le_trans hS1.base hkg.size, fun k e => Nat.lt_of_lt_of_le (hS1.lt k e) hkg.size, hS1.row, hS1.inF, hkg.cell hS1.p (hS1.lt _ hS1.inF) (fun e => by injection e with e; exact hne e.symm), ?_, ?_, by rw [hl2]; exact hS1.len, hS1.n60, fun j => ?_⟩, ?_⟩
                  · rw [hl2, ← hS1.len]; exact hst.1
                  · rw [hT1.out]
                    exact ((hS1.nums).set (Nums.of_row ho) (Off.new ho hS.out.lt) m).kept hkF
                  · rw [hT1.out, getD_set]
                    split
                    · refine ⟨ofL_up _, fun y hy => ?_⟩
                      rcases (unionL_mem _ _ y).1 hy with hy | hy
                      · exact (hS.out.good m).2 y hy
                      · exact hIB'.out y hy
                    · exact hS.out.good j
                  · exact (hkk.step (Kept.of_below hbe) (fun k hk h => h)).setCell (fun _ => rfl))
                have hfk := hid (fun w1 (hbe : Below wr.heap.size wr w1) => (own_below hown.out hbe).frozenAt m)
                have hck : Hid (∀ w1, Below wr.heap.size wr w1 → w1.cell? ⟨g, m, none⟩ = some gs'[m]) := hid (fun w1 hbe => ((own_below hown.out hbe).cellAt m (by omega)).trans (List.getElem?_eq_getElem hmn))
                generalize unionL ((linkL fl LB (LA.take q)).getD m []) LB = U at hnxt GU0 hT1
                clear hxe
                generalize gs'[m] = X at c2 hx GU0 hck
                clear hat hx hT1 hown hlen2 hm h0 hT hla' hAk hbk GU hS
                go_wp2_with fail
                refine wp_region_held_drew (S := fun w' => w'.cell? ⟨pb, 4, none⟩ = some (.slice (some ⟨g, 0, none⟩) (nS [t]) gvc) ∧ w'.cell? ⟨b1, o1 + q, none⟩ = some (.int .i64 (m : Int))) (by kernel_rfl) ⟨d4, c1⟩ (fun hHeld => ?_)
                refine wpAnyH_take (i := 0) (oi := { dst := some 104, op := .fieldAddr 64 (.tmp 3) 4, type := 0, pos := "ref.go:90", after := #[], guard := none }) (v := ?_) rfl (by kernel_rfl) (by kernel_rfl) (by kernel_rfl) (fun _ _ _ h => h) (Or.inl ⟨by rfl, ?_⟩) (by assumption) ?_
                rotate_left
                · (intro w hSw; (try dsimp only at hSw); go_simp; try with_reducible rfl)
                try simp only [Act.put, List.setIfInBounds_toArray, List.set_cons_zero, List.set_cons_succ]
                refine wpAnyH_take (i := 1) (oi := { dst := some 105, op := .load 22 (.tmp 104), type := 22, pos := "ref.go:90", after := #[{ on := 0, ground := .data }], guard := none }) (v := ?_) rfl (by kernel_rfl) (by kernel_rfl) (by kernel_rfl) (fun _ _ _ h => h) (Or.inl ⟨by rfl, ?_⟩) (by assumption) ?_
                rotate_left
                · (intro w hSw; (try dsimp only at hSw); go_simp; try with_reducible rfl)
                try simp only [Act.put, List.setIfInBounds_toArray, List.set_cons_zero, List.set_cons_succ]
                refine wpAnyH_take (i := 2) (oi := { dst := some 106, op := .move (.tmp 7), type := 23, pos := "ref.go:90", after := #[], guard := none }) (v := ?_) rfl (by kernel_rfl) (by kernel_rfl) (by kernel_rfl) (fun _ _ _ h => h) (Or.inl ⟨by rfl, ?_⟩) (by assumption) ?_
                rotate_left
                · (intro w hSw; (try dsimp only at hSw); go_simp; try with_reducible rfl)
                try simp only [Act.put, List.setIfInBounds_toArray, List.set_cons_zero, List.set_cons_succ]
                refine wpAnyH_take (i := 3) (oi := { dst := some 107, op := .move (.tmp 9), type := 3, pos := "ref.go:90", after := #[], guard := none }) (v := ?_) rfl (by kernel_rfl) (by kernel_rfl) (by kernel_rfl) (fun _ _ _ h => h) (Or.inl ⟨by rfl, ?_⟩) (by assumption) ?_
                rotate_left
                · (intro w hSw; (try dsimp only at hSw); go_simp; try with_reducible rfl)
                try simp only [Act.put, List.setIfInBounds_toArray, List.set_cons_zero, List.set_cons_succ]
                refine wpAnyH_take (i := 4) (oi := { dst := some 108, op := .indexAddr 23 (.tmp 106) (.tmp 107), type := 0, pos := "ref.go:90", after := #[{ on := 2, ground := .data }, { on := 3, ground := .data }], guard := none }) (v := ?_) rfl (by kernel_rfl) (by kernel_rfl) (by kernel_rfl) (fun _ _ _ h => h) (Or.inl ⟨by rfl, ?_⟩) (by assumption) ?_
                rotate_left
                · (intro w hSw; (try dsimp only at hSw); go_simp; try with_reducible rfl)
                try simp only [Act.put, List.setIfInBounds_toArray, List.set_cons_zero, List.set_cons_succ]
                refine wpAnyH_take (i := 5) (oi := { dst := some 109, op := .load 3 (.tmp 108), type := 3, pos := "ref.go:90", after := #[{ on := 4, ground := .data }], guard := none }) (v := ?_) rfl (by kernel_rfl) (by kernel_rfl) (by kernel_rfl) (fun _ _ _ h => h) (Or.inl ⟨by rfl, ?_⟩) (by assumption) ?_
                rotate_left
                · (intro w hSw; (try dsimp only at hSw); go_simp; try with_reducible rfl)
                try simp only [Act.put, List.setIfInBounds_toArray, List.set_cons_zero, List.set_cons_succ]
                refine wpAnyH_take (i := 6) (oi := { dst := some 110, op := .fieldAddr 64 (.tmp 3) 4, type := 0, pos := "ref.go:90", after := #[], guard := none }) (v := ?_) rfl (by kernel_rfl) (by kernel_rfl) (by kernel_rfl) (fun _ _ _ h => h) (Or.inl ⟨by rfl, ?_⟩) (by assumption) ?_
                rotate_left
                · (intro w hSw; (try dsimp only at hSw); go_simp; try with_reducible rfl)
                try simp only [Act.put, List.setIfInBounds_toArray, List.set_cons_zero, List.set_cons_succ]
                refine wpAnyH_take (i := 7) (oi := { dst := some 111, op := .load 22 (.tmp 110), type := 22, pos := "ref.go:90", after := #[{ on := 6, ground := .data }], guard := none }) (v := ?_) rfl (by kernel_rfl) (by kernel_rfl) (by kernel_rfl) (fun _ _ _ h => h) (Or.inl ⟨by rfl, ?_⟩) (by assumption) ?_
                rotate_left
                · (intro w hSw; (try dsimp only at hSw); go_simp; try with_reducible rfl)
                try simp only [Act.put, List.setIfInBounds_toArray, List.set_cons_zero, List.set_cons_succ]
                refine wpAnyH_take (i := 8) (oi := { dst := some 112, op := .move (.tmp 7), type := 23, pos := "ref.go:90", after := #[], guard := none }) (v := ?_) rfl (by kernel_rfl) (by kernel_rfl) (by kernel_rfl) (fun _ _ _ h => h) (Or.inl ⟨by rfl, ?_⟩) (by assumption) ?_
                rotate_left
                · (intro w hSw; (try dsimp only at hSw); go_simp; try with_reducible rfl)
                try simp only [Act.put, List.setIfInBounds_toArray, List.set_cons_zero, List.set_cons_succ]
                refine wpAnyH_take (i := 9) (oi := { dst := some 113, op := .move (.tmp 9), type := 3, pos := "ref.go:90", after := #[], guard := none }) (v := ?_) rfl (by kernel_rfl) (by kernel_rfl) (by kernel_rfl) (fun _ _ _ h => h) (Or.inl ⟨by rfl, ?_⟩) (by assumption) ?_
                rotate_left
                · (intro w hSw; (try dsimp only at hSw); go_simp; try with_reducible rfl)
                try simp only [Act.put, List.setIfInBounds_toArray, List.set_cons_zero, List.set_cons_succ]
                refine wpAnyH_take (i := 10) (oi := { dst := some 114, op := .indexAddr 23 (.tmp 112) (.tmp 113), type := 0, pos := "ref.go:90", after := #[{ on := 8, ground := .data }, { on := 9, ground := .data }], guard := none }) (v := ?_) rfl (by kernel_rfl) (by kernel_rfl) (by kernel_rfl) (fun _ _ _ h => h) (Or.inl ⟨by rfl, ?_⟩) (by assumption) ?_
                rotate_left
                · (intro w hSw; (try dsimp only at hSw); go_simp; try with_reducible rfl)
                try simp only [Act.put, List.setIfInBounds_toArray, List.set_cons_zero, List.set_cons_succ]
                refine wpAnyH_take (i := 11) (oi := { dst := some 115, op := .load 3 (.tmp 114), type := 3, pos := "ref.go:90", after := #[{ on := 10, ground := .data }], guard := none }) (v := ?_) rfl (by kernel_rfl) (by kernel_rfl) (by kernel_rfl) (fun _ _ _ h => h) (Or.inl ⟨by rfl, ?_⟩) (by assumption) ?_
                rotate_left
                · (intro w hSw; (try dsimp only at hSw); go_simp; try with_reducible rfl)
                try simp only [Act.put, List.setIfInBounds_toArray, List.set_cons_zero, List.set_cons_succ]
                refine wpAnyH_take (i := 12) (oi := { dst := some 116, op := .indexAddr 22 (.tmp 111) (.tmp 115), type := 0, pos := "ref.go:90", after := #[{ on := 7, ground := .data }, { on := 11, ground := .data }], guard := none }) (v := ?_) rfl (by kernel_rfl) (by kernel_rfl) (by kernel_rfl) (fun _ _ _ h => h) (Or.inl ⟨by rfl, ?_⟩) (by assumption) ?_
                rotate_left
                · (intro w hSw; (try dsimp only at hSw); go_simp; try with_reducible rfl)
                try simp only [Act.put, List.setIfInBounds_toArray, List.set_cons_zero, List.set_cons_succ]
                refine wpAnyH_take (i := 14) (oi := { dst := some 118, op := .move (.tmp 8), type := 23, pos := "ref.go:90", after := #[], guard := none }) (v := ?_) rfl (by kernel_rfl) (by kernel_rfl) (by kernel_rfl) (fun _ _ _ h => h) (Or.inl ⟨by rfl, ?_⟩) (by assumption) ?_
                rotate_left
                · (intro w hSw; (try dsimp only at hSw); go_simp; try with_reducible rfl)
                try simp only [Act.put, List.setIfInBounds_toArray, List.set_cons_zero, List.set_cons_succ]
                refine wpAnyH_ready (rs := [13]) (by kernel_rfl) (by simp) ?_
                refine AllReadyH.cons (o := { dst := some 117, op := .load 23 (.tmp 116), type := 23, pos := "ref.go:90", after := #[{ on := 12, ground := .data }], guard := none }) rfl (fun K hK => ?_) AllReadyH.nil
                go_simp
                refine hK.out _ _ ⟨d4, c1⟩ (fun hHeld2 => ?_)
                clear hK K hHeld
                try simp only [Act.put, List.setIfInBounds_toArray, List.set_cons_zero, List.set_cons_succ]
                refine wpAnyH_ready (rs := [15]) (by kernel_rfl) (by simp) ?_
                refine AllReadyH.cons (o := { dst := some 119, op := .call { callee := .value (.func 54), args := #[.tmp 117, .tmp 118], argTypes := #[23, 23] }, type := 23, pos := "ref.go:90", after := #[{ on := 13, ground := .data }, { on := 14, ground := .data }], guard := none }) rfl (fun K hK => ?_) AllReadyH.nil
                refine step_call (by rfl) 54 #[X, .slice vb1 LB.length vb2] (by (go_simp; done)) GU0.out ?_
                rintro e w3 ⟨v3, rfl, hO3, hbe0⟩
                obtain ⟨a3, cc3, rfl, hx3⟩ := id (Nums.of_row hO3)
                clear hx3
                have hbe := bl_step hdw.out hbe0
                have f3 := hfk.out w3 hbe
                have c3 := hck.out w3 hbe
                have d5 := keep_cell hbe0 d4
                have c4 := keep_cell hbe0 c1
                have d6 := set_keep (v := .slice a3 U.length cc3) m d5 hne
                have c6 := set_keep (v := .slice a3 U.length cc3) m c4 hnb1
                refine ⟨_, rfl, hK.out _ _ ⟨d5, c4⟩ (fun hHeld => ?_)⟩
                clear hK K hHeld2
                try simp only [Act.put, List.setIfInBounds_toArray, List.set_cons_zero, List.set_cons_succ]
                refine wpAnyH_take (i := 16) (oi := { dst := some 120, op := .indexAddr 22 (.tmp 105) (.tmp 109), type := 0, pos := "ref.go:90", after := #[{ on := 1, ground := .data }, { on := 5, ground := .data }, { on := 0, ground := .phase }, { on := 1, ground := .phase }, { on := 2, ground := .phase }, { on := 3, ground := .phase }, { on := 4, ground := .phase }, { on := 5, ground := .phase }, { on := 6, ground := .phase }, { on := 7, ground := .phase }, { on := 8, ground := .phase }, { on := 9, ground := .phase }, { on := 10, ground := .phase }, { on := 11, ground := .phase }, { on := 12, ground := .phase }, { on := 13, ground := .phase }, { on := 14, ground := .phase }, { on := 15, ground := .phase }], guard := none }) (v := ?_) rfl (by kernel_rfl) (by kernel_rfl) (by kernel_rfl) (fun _ _ _ h => h) (Or.inl ⟨by rfl, ?_⟩) (by assumption) ?_
                rotate_left
                · (intro w hSw; (try dsimp only at hSw); go_simp; try with_reducible rfl)
                try simp only [Act.put, List.setIfInBounds_toArray, List.set_cons_zero, List.set_cons_succ]
                refine wpAnyH_ready (rs := [17]) (by kernel_rfl) (by simp) ?_
                refine AllReadyH.cons (o := { dst := none, op := .store 23 (.tmp 120) (.tmp 119), type := 0, pos := "ref.go:90", after := #[{ on := 16, ground := .data }, { on := 15, ground := .data }, { on := 15, ground := .chain }, { on := 0, ground := .phase }, { on := 1, ground := .phase }, { on := 2, ground := .phase }, { on := 3, ground := .phase }, { on := 4, ground := .phase }, { on := 5, ground := .phase }, { on := 6, ground := .phase }, { on := 7, ground := .phase }, { on := 8, ground := .phase }, { on := 9, ground := .phase }, { on := 10, ground := .phase }, { on := 11, ground := .phase }, { on := 12, ground := .phase }, { on := 13, ground := .phase }, { on := 14, ground := .phase }, { on := 15, ground := .phase }], guard := none }) rfl (fun K hK => ?_) AllReadyH.nil
                go_simp
                refine hK.out _ _ ⟨d6, c6⟩ (fun hHeld2 => ?_)
                refine wpAnyH_done (by kernel_rfl) ?_ _
                clear hK K hHeld
                try simp only [Act.put, List.setIfInBounds_toArray, List.set_cons_zero, List.set_cons_succ]
                obtain ⟨gs2, z1, z2⟩ := hnxt.out _ w3 hO3 hbe
                go_wp2
                go_roundw
                case rel => exact ⟨q + 1, gs2, by omega, by go_num, z1, z2⟩
                case measure => simp [intOf]; omega
              · have hqz : ¬ (q : Int) < (LA.length : Int) := by omega
                obtain rfl : q = LA.length := by omega
                rw [hEE.out] at hS
                have hR3 := hid (hR2.out.linked hkk hS.out)
                have hPq3 := hid (hPq2.out.kept (hkk.mono fun k _ e => (hrw.out k e).1))
                have hB3 := hid (hB2.out.trans (hkk.below (fun k e => (hR2.out.lk.own.lt k e).1) hR2.out.lk.base))
                go_wp2
                go_roundw
                case rel => exact ⟨k + 1, gs', _, by omega, by go_num, hR3, hPq3, hF2, hB3.out⟩
                case measure => simp [intOf]; omega
          · skip
            obtain ⟨a, r, rfl⟩ := one_top (by rw [hwo] at hw; exact hw.2)
            have hF2 : Hid (FolOK (FolS (stK l (k + 1))) (nS [t]) fl) := hid (by rw [hsu.out]; exact hFol.out.congr fun j k _ => by simp only [stepS]; exact (folS_opt a r j k).symm)
            obtain ⟨wo, hwo2⟩ : ∃ x, x = wr := ⟨_, rfl⟩
            subst hwo2
            subst hav
            go_wp2
            go_loopw [9] (fun i wr2 => i = .int .i64 0 ∧ Hid (wr2 = wo)) (fun _ _ => 0)
            case atStart => exact ⟨rfl, hid rfl⟩
            case round =>
              obtain ⟨rfl, hwr⟩ := hrel
              have hwr' := hwr.out
              subst hwr'
              go_wp2
              go_roundw
              case rel => exact ⟨k + 1, gs, fl, by omega, by go_num, hR, hPq, hF2, hbl⟩
              case measure => simp [intOf]; omega
        · have hltz : ¬ (k : Int) ≤ (l.length : Int) - 1 := by omega
          obtain rfl : k = l.length := by omega
          rw [hend.out] at hFol
          obtain ⟨p0, p1, p2, p3, p4, -, -, -, -, -⟩ := cells5s hR.out.blk
          have hq1 : wr.heap[w.heap.size]? = _ := (hbl.block _ hpb).trans hqr.out
          obtain ⟨x0, x1, x2, x3, x4, y0, y1, y2, y3, y4⟩ := cells5s hq1
          have hfb := put5_blk (y0 := .slice sva (setsS [t]).length svc) (y1 := .bool t.null) (y2 := .slice fa nf fc) (y3 := .slice la nl lc) (y4 := .slice gva (nS [t]) gvc) hq1
          obtain ⟨r0, r1, r2, r3, r4, -, -, -, -, -⟩ := cells5s hfb
          unfold put5 at r0 r1 r2 r3 r4
          have hKf : Hid (Kept (oneBlk w.heap.size) wr (put5 wr w.heap.size (.slice sva (setsS [t]).length svc) (.bool t.null) (.slice fa nf fc) (.slice la nl lc) (.slice gva (nS [t]) gvc))) := hid (put5_kept (Kept.refl _ _) rfl)
          have hfin : Hid (∀ u, Kept (oneBlk w.heap.size) wr u → SpVF (fun k => k < w.heap.size) u (.slice sva (setsS [t]).length svc) (.slice fa nf fc) (.slice la nl lc) (.slice gva (nS [t]) gvc) ⟨setsS [t], t.null, firstL t 0, lastL t 0, fl⟩ ∧ Below w.heap.size w u) := hid (fun u hu => by
            have huF : Kept F wr u := hu.mono fun k _ e => by have e' : k = w.heap.size := e; rw [e']; exact hX.out _ (Nat.le_refl _)
            refine ⟨spvf_mk (F := F) (pb := pb) (own_kept hR.out.sets hu (fun k e e' => ?_)) hfit.out (hPq.out.first.kept huF hPq.out.offF) hPq.out.offF (hPq.out.last.kept huF hPq.out.offL) hPq.out.offL (own_kept hR.out.lk.own hu (fun k e e' => ?_)) (hR.out.lk.nums.kept huF) hX.out (by omega), hblw.out.trans (hu.below (fun k e => ?_) hblw.out.size)⟩
            · have h1 := (hR.out.sets.lt k e).1
              have e2 : k = w.heap.size := e'
              omega
            · have h1 := (hR.out.lk.own.lt k e).1
              have e2 : k = w.heap.size := e'
              omega
            · have e2 : k = w.heap.size := e
              omega)
          clear hq1 hfb
          go_wp2
          obtain ⟨E1, E2⟩ := hfin.out _ hKf.out
          exact bodyPost_ret (v := .agg #[.slice sva (setsS [t]).length svc, .bool t.null, .slice fa nf fc, .slice la nl lc, .slice gva (nS [t]) gvc]) (by simp [results, Tryz.results30, go_sem, r0, r1, r2, r3, r4]) rfl (by first | exact ⟨_, _, _, _, fl, rfl, E1, hFol.out, E2⟩ | exact ⟨_, _, _, _, rfl, fl, E1, hFol.out, E2⟩)

end Go.Proofs.YtlpbeieljjgbaaaGreatDoor
