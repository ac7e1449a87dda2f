/- spots.Of: of what is no right rule; facts for the rest. spots.Of: small facts. -/
import Derived.Test.YtgbecehggdkkmaaJ29
import Derived.Test.YtgbecehggdkkmaaJ30
import Derived.Deep.AppendLies
import Derived.Maps.AppendAt
namespace Go.Proofs.Ytgbecehggdkkmaa
open Go.RowKit

set_option maxRecDepth 20000 in
theorem Try.infoP : (Try.prog.info? 48).map (fun i => (i.zero, i.size, i.bytes)) = some (some (.agg #[.bool false, .slice none 0 0, .slice none 0 0]), 3, 56) := by kernel_rfl
set_option maxRecDepth 20000 in
theorem Try.infoS4 : (Try.prog.info? 40).map (fun i => (i.zero, i.size, i.bytes)) = some (some (.agg #[.int .u64 0, .int .u64 0, .int .u64 0, .int .u64 0]), 4, 32) := by kernel_rfl
set_option maxRecDepth 20000 in
theorem Try.infoN : (Try.prog.info? 24).map (fun i => (i.zero, i.size, i.bytes)) = some (some (.slice none 0 0), 1, 24) := by kernel_rfl
set_option maxRecDepth 20000 in
theorem Try.sizeP (u : World) : (sizeOf 48).run Try.prog u = .ok 3 u := by kernel_rfl
set_option maxRecDepth 20000 in
theorem Try.elemP : Try.prog.elem 44 = 48 := by kernel_rfl
set_option maxRecDepth 20000 in
theorem cutP_hi (g n cap r : Nat) (h : r ≤ cap) (u : World) : (Instr.slice 44 (.slice (some ⟨g, 0, none⟩) n cap) none (some (.int .i64 (r : Int))) none).run Try.prog u = .ok (.slice (some ⟨g, 0, none⟩) r cap) u := by
  rw [run_slice_h u 44 _ _ _ Try.underlying44 .i64 _ (by omega) (by omega), Try.elemP, Try.sizeP]
  simp [sliced, Addr.add]

theorem nS_step {st : List Rx} {c : Cel} (h0 : 0 ≤ wants c.op) (h1 : wants c.op ≤ (st.length : Int)) : nS (stepS st c) ≤ nS st + 1 := by
  obtain ⟨op, S⟩ := c
  simp only at h0 h1 ⊢
  rcases wants_cases op h0 with ⟨rfl, hw⟩ | ⟨rfl, hw⟩ | ⟨rfl, hw⟩ | ⟨rfl, hw⟩ | ⟨rfl, hw⟩ | ⟨rfl, hw⟩ | ⟨rfl, hw⟩
  · simp [stepS, nS, nSets]
  · simp [stepS, nS, nSets]
  · rw [hw] at h1
    match st, h1 with
    | b :: a :: r, _ => simp [stepS, nS, nSets]; omega
    | [_], h => simp at h
    | [], h => simp at h
  · rw [hw] at h1
    match st, h1 with
    | b :: a :: r, _ => simp [stepS, nS, nSets]; omega
    | [_], h => simp at h
    | [], h => simp at h
  · rw [hw] at h1
    match st, h1 with
    | a :: r, _ => simp [stepS, nS, nSets]
    | [], h => simp at h
  · rw [hw] at h1
    match st, h1 with
    | a :: r, _ => simp [stepS, nS, nSets]
    | [], h => simp at h
  · rw [hw] at h1
    match st, h1 with
    | a :: r, _ => simp [stepS, nS, nSets]
    | [], h => simp at h
theorem len_step {st : List Rx} {c : Cel} (h0 : 0 ≤ wants c.op) (h1 : wants c.op ≤ (st.length : Int)) : (stepS st c).length ≤ st.length + 1 := by
  have := stepS_len h0 h1
  omega
theorem nS_stK {l : List Cel} (hr : rightB l = true) : ∀ k, k ≤ l.length → nS (stK l k) ≤ k ∧ (stK l k).length ≤ k
  | 0, _ => ⟨Nat.le_refl _, Nat.le_refl _⟩
  | k + 1, hk => by
    have ih := nS_stK hr k (by omega)
    have hw := stK_wants hr k (by omega)
    rw [stK_succ l k (by omega)]
    have h1 := nS_step (c := l[k]) hw.1 hw.2
    have h2 := len_step (c := l[k]) hw.1 hw.2
    omega
theorem firstL_in (t : Rx) (n m : Nat) (h : n + nSets t ≤ m) : InN (firstL t n) m := fun x hx => by
  obtain ⟨k, rfl, hk⟩ := (firstL_mem t n x).1 hx
  have := fst_in t n k hk
  omega
theorem lastL_in (t : Rx) (n m : Nat) (h : n + nSets t ≤ m) : InN (lastL t n) m := fun x hx => by
  obtain ⟨k, rfl, hk⟩ := (lastL_mem t n x).1 hx
  have := lst_in t n k hk
  omega
theorem lastL_cat (a b : Rx) (n : Nat) : lastL (.cat a b) n = if b.null then unionL (lastL a n) (lastL b (n + nSets a)) else lastL b (n + nSets a) := by
  rw [lastL, unionL_comm]
theorem firstL_cat (a b : Rx) (n : Nat) : firstL (.cat a b) n = if a.null then unionL (firstL a n) (firstL b (n + nSets a)) else firstL a n := rfl
theorem cells5s {w : World} {b : Nat} {x0 x1 x2 x3 x4 : Value} {T : TypeId} (h : w.heap[b]? = some (.cells #[x0, x1, x2, x3, x4] T (0, 0))) :
    w.cell? ⟨b, 0, none⟩ = some x0 ∧ w.cell? ⟨b, 1, none⟩ = some x1 ∧ w.cell? ⟨b, 2, none⟩ = some x2 ∧ w.cell? ⟨b, 3, none⟩ = some x3 ∧ w.cell? ⟨b, 4, none⟩ = some x4 ∧ w.frozen? ⟨b, 0, none⟩ = false ∧ w.frozen? ⟨b, 1, none⟩ = false ∧ w.frozen? ⟨b, 2, none⟩ = false ∧ w.frozen? ⟨b, 3, none⟩ = false ∧ w.frozen? ⟨b, 4, none⟩ = false :=
  ⟨blk_cell h rfl, blk_cell h rfl, blk_cell h rfl, blk_cell h rfl, blk_cell h rfl, blk_frozen h 0, blk_frozen h 1, blk_frozen h 2, blk_frozen h 3, blk_frozen h 4⟩
theorem OfM.start (u : World) (x : Nat) (hx : x < u.heap.size) : OfM u.heap.size u.heap.size (fun k => k = u.heap.size ∨ k = x) 0 (u.alloc (.cells #[nilV, .bool false, nilV, nilV, nilV] 27)) nilV nilV nilV [] [] [] [] [] where
  lk := ⟨by simp, fun k e => (by rw [size_al]; rcases e with e | e <;> omega), fun k e => (by cases e), Or.inl rfl, blk_cell (heap_new u (.cells #[nilV, .bool false, nilV, nilV, nilV] 27)) (by rfl), World.ownsRow_nil _ _ _ _, NumsF.nil _ _, rfl, (by omega), fun j => ⟨List.Pairwise.nil, fun x hx => (by simp at hx)⟩⟩
  blk := heap_new u _
  sets := World.ownsRow_nil _ _ _ _
  sF := fun k e => by cases e
  own := World.ownsRow_nil _ _ _ _
  oF := fun k e => by cases e
  pts := rfl
theorem folOK_start : FolOK (FolS []) (nS []) [] := ⟨rfl, fun _ hj => absurd hj (Nat.not_lt_zero _), fun _ _ hj => absurd hj (Nat.not_lt_zero _)⟩

def put5 (w : World) (b : Nat) (y0 y1 y2 y3 y4 : Value) : World := ((((w.setCell ⟨b, 0, none⟩ y0).setCell ⟨b, 1, none⟩ y1).setCell ⟨b, 2, none⟩ y2).setCell ⟨b, 3, none⟩ y3).setCell ⟨b, 4, none⟩ y4
theorem put5_blk {w : World} {b : Nat} {x0 x1 x2 x3 x4 y0 y1 y2 y3 y4 : Value} {T : TypeId} {fr : Nat × Nat} (h : w.heap[b]? = some (.cells #[x0, x1, x2, x3, x4] T fr)) : (put5 w b y0 y1 y2 y3 y4).heap[b]? = some (.cells #[y0, y1, y2, y3, y4] T fr) := heap_setCell (heap_setCell (heap_setCell (heap_setCell (heap_setCell h))))
theorem put5_kept {F : Nat → Prop} {w u : World} {b : Nat} {y0 y1 y2 y3 y4 : Value} (h : Kept F w u) (hb : F b) : Kept F w (put5 u b y0 y1 y2 y3 y4) := ((((h.setCell fun _ => hb).setCell fun _ => hb).setCell fun _ => hb).setCell fun _ => hb).setCell fun _ => hb
set_option maxRecDepth 20000 in
theorem sofBad (v : Value) (l : List Cel) (w : World) (hA : Cels w v l) (hr : rightB l = false) :
    Calls Try.prog 7 #[v] w fun e w' => e = .returned (.tuple #[.agg #[nilV, .bool false, nilV, nilV, nilV], .int .i64 1]) ∧ Below w.heap.size w w' := by
  have hb0 := al' w (.cells #[nilV, .bool false, nilV, nilV, nilV] 27)
  have G := hid (rightP v l _ (hA.keep hb0))
  have hq := heap_new w (.cells #[nilV, .bool false, nilV, nilV, nilV] 27)
  have hb0 := hid hb0
  rw [hr] at G
  obtain ⟨av, cv, rfl, _⟩ := hA
  go_enter Try.func7, Try.ntmps7
  go_wp2_with (go_at_call 16; refine G.out.mono ?_; rintro e w1 ⟨rfl, hb1⟩; have hq1 := hs_keep hq hb1; obtain ⟨c0, c1, c2, c3, c4, f0, f1, f2, f3, f4⟩ := cells5s hq1)
  have hfb : (put5 w1 w.heap.size nilV (.bool false) nilV nilV nilV).heap[w.heap.size]? = some (.cells #[nilV, .bool false, nilV, nilV, nilV] 27) := put5_blk hq1
  obtain ⟨r0, r1, r2, r3, r4, -⟩ := cells5s hfb
  unfold put5 at r0 r1 r2 r3 r4
  have hk : Kept (oneBlk w.heap.size) w (put5 w1 w.heap.size nilV (.bool false) nilV nilV nilV) := put5_kept (Kept.of_below (bl_step hb0.out hb1)) rfl
  exact bodyPost_ret (v := .tuple #[.agg #[nilV, .bool false, nilV, nilV, nilV], .int .i64 1]) (by simp [results, Try.results7, go_sem, r0, r1, r2, r3, r4]) rfl ⟨rfl, hk.below (fun k e => Nat.le_of_eq (show k = w.heap.size from e).symm) (Nat.le_refl _)⟩

end Go.Proofs.Ytgbecehggdkkmaa
namespace Go.Proofs.Ytgbecehggdkkmaa
open Go.RowKit

theorem own_shape {w : World} {B n size : Nat} {e : TypeId} {v : Value} {xs : List Value} (h : w.ownsRow B e size v n xs) : ∃ a c, v = .slice a n c := by
  rcases h.2 with ⟨rfl, h0⟩ | ⟨g, cap, cur, rfl, _⟩
  · exact ⟨none, 0, by rw [h0]⟩
  · exact ⟨_, _, rfl⟩
theorem bstep {B : Nat} {W w u : World} (h : Below B W w) (hu : Below w.heap.size w u) (hB : B ≤ w.heap.size) : Below B W u := h.trans (hu.mono hB)
theorem bgrow {B : Nat} {W u w' : World} {r : Option Nat} (h : Below B W u) (hg : u.grownBy w' r) (hB : B ≤ u.heap.size) (hr : ∀ k, r = some k → B ≤ k) : Below B W w' :=
  h.trans ((Kept.of_grown hg).below (fun k e => hr k e) hB)
theorem grown_blk {u w' : World} {r : Option Nat} {b : Nat} {x : Obj} (hg : u.grownBy w' r) (hx : u.heap[b]? = some x) (hr : r ≠ some b) : w'.heap[b]? = some x := (Kept.of_grown hg).blk hx hr

theorem set_size (w : World) (a : Addr) (v : Value) : (w.setCell a v).heap.size = w.heap.size := by simp
theorem heap_new_set (w : World) (a : Addr) (v : Value) (o : Obj) : ((w.setCell a v).alloc o).heap[w.heap.size]? = some o := by
  have h := heap_new (w.setCell a v) o
  rw [set_size] at h
  exact h

theorem setsL_post : ∀ (t : Rx) (S : W4), S ∈ setsL t → (⟨1, S⟩ : Cel) ∈ post t
  | .set T, S, h => by simp [setsL] at h; subst h; simp [post]
  | .eps, S, h => by simp [setsL] at h
  | .cat a b, S, h => by
    simp only [setsL, List.mem_append] at h
    simp only [post, List.mem_append]
    rcases h with h | h
    · exact Or.inl (setsL_post a S h)
    · exact Or.inr (Or.inl (setsL_post b S h))
  | .or a b, S, h => by
    simp only [setsL, List.mem_append] at h
    simp only [post, List.mem_append]
    rcases h with h | h
    · exact Or.inl (setsL_post a S h)
    · exact Or.inr (Or.inl (setsL_post b S h))
  | .star a, S, h => by
    simp only [post, List.mem_append]
    exact Or.inl (setsL_post a S h)
  | .plus a, S, h => by
    simp only [post, List.mem_append]
    exact Or.inl (setsL_post a S h)
  | .opt a, S, h => by
    simp only [post, List.mem_append]
    exact Or.inl (setsL_post a S h)
theorem setsS_eps (st : List Rx) : setsS (.eps :: st) = setsS st := by simp [setsS, setsL]
theorem two_top {st : List Rx} (h : (2 : Int) ≤ (st.length : Int)) : ∃ b a r, st = b :: a :: r := by
  match st, h with
  | b :: a :: r, _ => exact ⟨b, a, r, rfl⟩
  | [_], h => simp at h
  | [], h => simp at h
theorem one_top {st : List Rx} (h : (1 : Int) ≤ (st.length : Int)) : ∃ a r, st = a :: r := by
  match st, h with
  | a :: r, _ => exact ⟨a, r, rfl⟩
  | [], h => simp at h
theorem own_form3 {w : World} {B n size : Nat} {e : TypeId} {v : Value} {xs : List Value} (h : w.ownsRow B e size v n xs) (hn : 0 < n) : ∃ g cap, v = .slice (some ⟨g, 0, none⟩) n cap ∧ n ≤ cap := by
  rcases h.2 with ⟨rfl, h0⟩ | ⟨g, cap, cur, rfl, _, _, hc, _⟩
  · omega
  · exact ⟨g, cap, rfl, hc⟩
theorem OfM.push' {B pb n : Nat} {F : Nat → Prop} {u w' : World} {sv gv ov : Value} {S : List W4} {gs : List Value} {fl : List (List Int)} {st : List Rx} {xs : List Value} (h : OfM B pb F n u sv gv ov S gs fl st xs) {g cap : Nat} {t : Rx} {fv lv : Value} {nb : Bool} {f l : List Int} (hn : nb = t.null) (hf : f = firstL t (nS st)) (hl : l = lastL t (nS st)) (hp : PtV F u fv lv f l)
    (ho : w'.ownsRow B 48 3 (.slice (some ⟨g, 0, none⟩) (st.length + 1) cap) (st.length + 1) (xs ++ [.bool nb, fv, lv])) (hg : u.grownBy w' ov.ownBlock) (hat : ov.ownBlock = some g ∨ g = u.heap.size) :
    OfM B pb (fun k => F k ∨ k = g) n w' sv gv (.slice (some ⟨g, 0, none⟩) (st.length + 1) cap) S gs fl (t :: st) (xs ++ [.bool nb, fv, lv]) := by
  subst hn hf hl
  exact h.push hp ho hg hat
theorem OfM.put' {B pb n : Nat} {F : Nat → Prop} {w : World} {sv gv : Value} {S : List W4} {gs : List Value} {fl : List (List Int)} {a t : Rx} {r : List Rx} {ys : List Value} {x0 x1 x2 fv lv : Value} {g cap : Nat} {nb : Bool} (h : OfM B pb F n w sv gv (.slice (some ⟨g, 0, none⟩) (r.length + 1) cap) S gs fl (a :: r) (ys ++ [x0, x1, x2])) (hn : nb = t.null) (hl : ys.length = r.length * 3) (hr : PtS F w r ys) (hp : PtV F w fv lv (firstL t (nS r)) (lastL t (nS r))) :
    OfM B pb F n (((w.setCell ⟨g, r.length * 3, none⟩ (.bool nb)).setCell ⟨g, r.length * 3 + 1, none⟩ fv).setCell ⟨g, r.length * 3 + 2, none⟩ lv) sv gv (.slice (some ⟨g, 0, none⟩) (r.length + 1) cap) S gs fl (t :: r) (ys ++ [.bool nb, fv, lv]) := by
  subst hn
  exact h.put hl hr hp

end Go.Proofs.Ytgbecehggdkkmaa
