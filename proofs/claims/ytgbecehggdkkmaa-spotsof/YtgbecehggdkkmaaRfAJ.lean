/- topiaryref07.Of: what it holds in memory; a stack's cells. -/
import Derived.Test.YtgbecehggdkkmaaJ31
namespace Go.Proofs.Ytgbecehggdkkmaa
open Go.RowKit

theorem fold_lain : ∀ st : List Rx, (lain st).foldl stepS [] = st
  | [] => rfl
  | t :: st => by
    show (lain st ++ post t).foldl stepS [] = _
    rw [List.foldl_append, fold_lain st, fold_post]
theorem lain_stK {l : List Cel} (hr : rightB l = true) (k : Nat) (hk : k ≤ l.length) : lain (stK l k) = l.take k := by
  obtain ⟨_, st, _, hla, _⟩ := depth_stack l k _ (stK_right hr k hk)
  unfold stK
  rw [← hla, fold_lain]
theorem numS_lain : ∀ st : List Rx, numS (lain st) = nS st
  | [] => rfl
  | t :: st => by
    show numS (lain st ++ post t) = nS st + nSets t
    rw [numS_app, numS_lain st, numS_post]
theorem nS_take {l : List Cel} (hr : rightB l = true) (k : Nat) (hk : k ≤ l.length) : nS (stK l k) = numS (l.take k) := by
  rw [← lain_stK hr k hk, numS_lain]
theorem numS_mono (l : List Cel) (k : Nat) : numS (l.take k) ≤ numS l := by
  have := numS_app (l.take k) (l.drop k)
  rw [List.take_append_drop] at this
  omega
theorem nS_le {l : List Cel} (hr : rightB l = true) (k : Nat) (hk : k ≤ l.length) : nS (stK l k) ≤ nS (stK l l.length) := by
  rw [nS_take hr k hk, nS_take hr _ (Nat.le_refl _), List.take_length]
  exact numS_mono l k
theorem nS_succ {l : List Cel} (hr : rightB l = true) (k : Nat) (hk : k < l.length) : nS (stK l (k + 1)) = nS (stK l k) + (if l[k].op = 1 then 1 else 0) := by
  rw [nS_take hr _ hk, nS_take hr _ (by omega), numS_take l k hk]
theorem setsS_step {st : List Rx} {c : Cel} (h0 : 0 ≤ wants c.op) (h1 : wants c.op ≤ (st.length : Int)) : setsS (stepS st c) = if c.op = 1 then setsS st ++ [c.s] else setsS st := by
  obtain ⟨op, S⟩ := c
  simp only at h0 h1 ⊢
  rcases wants_cases op h0 with ⟨rfl, hw⟩ | ⟨rfl, hw⟩ | ⟨rfl, hw⟩ | ⟨rfl, hw⟩ | ⟨rfl, hw⟩ | ⟨rfl, hw⟩ | ⟨rfl, hw⟩
  · simp [stepS, setsS, setsL]
  · simp [stepS, setsS, setsL]
  · rw [hw] at h1
    match st, h1 with
    | b :: a :: r, _ => simp [stepS, setsS, setsL]
    | [_], h => simp at h
    | [], h => simp at h
  · rw [hw] at h1
    match st, h1 with
    | b :: a :: r, _ => simp [stepS, setsS, setsL]
    | [_], h => simp at h
    | [], h => simp at h
  · rw [hw] at h1
    match st, h1 with
    | a :: r, _ => simp [stepS, setsS, setsL]
    | [], h => simp at h
  · rw [hw] at h1
    match st, h1 with
    | a :: r, _ => simp [stepS, setsS, setsL]
    | [], h => simp at h
  · rw [hw] at h1
    match st, h1 with
    | a :: r, _ => simp [stepS, setsS, setsL]
    | [], h => simp at h
theorem setsS_succ {l : List Cel} (hr : rightB l = true) (k : Nat) (hk : k < l.length) : setsS (stK l (k + 1)) = if l[k].op = 1 then setsS (stK l k) ++ [l[k].s] else setsS (stK l k) := by
  rw [stK_succ l k hk, setsS_step (stK_wants hr k hk).1 (stK_wants hr k hk).2]

structure RM (pb : Nat) (F : Nat → Prop) (n : Nat) (w : World) (sv nv fv lv gv : Value) (S : List W4) (gs : List Value) (fl : List (List Int)) : Prop where
  lk : LkS F pb pb gv n w gs fl
  blk : w.heap[pb]? = some (.cells #[sv, nv, fv, lv, gv] 27 (0, 0))
  sets : OwnS w pb sv S
  sF : ∀ k, sv.ownBlock = some k → F k ∧ k ≠ pb ∧ gv.ownBlock ≠ some k
theorem RM.of {pb n : Nat} {F : Nat → Prop} {w : World} {sv gv ov : Value} {S : List W4} {gs : List Value} {fl : List (List Int)} {st : List Rx} {xs : List Value} (h : OfM pb pb F n w sv gv ov S gs fl st xs) : RM pb F n w sv (.bool false) nilV nilV gv S gs fl := ⟨h.lk, h.blk, h.sets, h.sF⟩
theorem RM.keep {pb n : Nat} {F : Nat → Prop} {w u : World} {sv nv fv lv gv : Value} {S : List W4} {gs : List Value} {fl : List (List Int)} (h : RM pb F n w sv nv fv lv gv S gs fl) (hu : Below w.heap.size w u) : RM pb F n u sv nv fv lv gv S gs fl := ⟨h.lk.keep hu, hs_keep h.blk hu, own_below h.sets hu, h.sF⟩
theorem RM.linked {pb n : Nat} {F : Nat → Prop} {w u : World} {sv nv fv lv gv : Value} {S : List W4} {gs gs' : List Value} {fl fl' : List (List Int)} (h : RM pb F n w sv nv fv lv gv S gs fl) (hu : Kept (fun k => gv.ownBlock = some k) w u) (hl : LkS F pb pb gv n u gs' fl') : RM pb F n u sv nv fv lv gv S gs' fl' :=
  ⟨hl, hu.blk h.blk (fun e => (h.lk.row _ e).2 rfl), own_kept h.sets hu (fun k e e' => (h.sF k e).2.2 e'), h.sF⟩
theorem RM.store {pb n o : Nat} {F : Nat → Prop} {w : World} {sv nv fv lv gv nv' fv' lv' x : Value} {S : List W4} {gs : List Value} {fl : List (List Int)} (h : RM pb F n w sv nv fv lv gv S gs fl) (hb : (w.setCell ⟨pb, o, none⟩ x).heap[pb]? = some (.cells #[sv, nv', fv', lv', gv] 27 (0, 0))) : RM pb F n (w.setCell ⟨pb, o, none⟩ x) sv nv' fv' lv' gv S gs fl := by
  have hk : Kept (oneBlk pb) w (w.setCell ⟨pb, o, none⟩ x) := (Kept.refl _ _).setCell fun _ => rfl
  have hkF : Kept F w (w.setCell ⟨pb, o, none⟩ x) := hk.mono fun k _ e => by have e' : k = pb := e; rw [e']; exact h.lk.inF
  refine ⟨⟨Nat.le_trans h.lk.base hk.size, fun k e => Nat.lt_of_lt_of_le (h.lk.lt k e) hk.size, h.lk.row, h.lk.inF, blk_cell hb rfl, own_kept h.lk.own hk (fun k e e' => (h.lk.row k e).2 e'), h.lk.nums.kept hkF, h.lk.len, h.lk.n60, h.lk.good⟩, hb, own_kept h.sets hk (fun k e e' => (h.sF k e).2.1 e'), h.sF⟩
theorem folOK_none : FolOK (fun _ _ => False) 0 [] := ⟨rfl, fun _ hj => absurd hj (Nat.not_lt_zero _), fun _ _ hj => absurd hj (Nat.not_lt_zero _)⟩

end Go.Proofs.Ytgbecehggdkkmaa
