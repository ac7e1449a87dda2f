/- The order of sets by their least bytes, and slices.SortFunc by it. -/
import Derived.Test.YtpkndedppfdekaaDoorShelf
import Derived.Test.YtpkndedppfdekaaDoorSplit
import Derived.Lib.OwnBridge
namespace Go.Proofs.YtpkndedppfdekaaDoor
open Go.RowKit Go.Sort Go.Lib

theorem leastFrom_bd (S : W4) : ∀ n k, (-1 : Int) ≤ leastFrom S k n ∧ leastFrom S k n < ((k + n : Nat) : Int) + 1
  | 0, k => by rw [leastFrom_zero]; omega
  | n + 1, k => by
    rw [leastFrom_succ]
    have := leastFrom_bd S n (k + 1)
    split <;> omega
theorem least_bd (S : W4) : (-1 : Int) ≤ leastB S ∧ leastB S ≤ 256 := by
  have := leastFrom_bd S 256 0
  rw [leastB_eq]
  omega

set_option maxHeartbeats 2000000 in
/-- the closure that Parts sorts by: the difference of the least bytes; it lays four blocks -/
theorem lessE (xa xb xc xd ya yb yc yd : Nat) (W : World) (hx : Fit4 ⟨xa, xb, xc, xd⟩) (hy : Fit4 ⟨ya, yb, yc, yd⟩) (hT : Tab W) :
    Calls Tryd.prog 32 #[valB ⟨xa, xb, xc, xd⟩, valB ⟨ya, yb, yc, yd⟩] W fun e w' => e = .returned (.int .i64 (leastB ⟨xa, xb, xc, xd⟩ - leastB ⟨ya, yb, yc, yd⟩)) ∧ ∃ q os', w' = grow (W.drewN q) os' := by
  have b1 := least_bd ⟨xa, xb, xc, xd⟩
  have b2 := least_bd ⟨ya, yb, yc, yd⟩
  have G1 := hid (fun u hu => leastE xa xb xc xd u hx hu)
  have G2 := hid (fun u hu => leastE ya yb yc yd u hy hu)
  have hT0 := hid (fun u (hb : Below W.heap.size W u) => hT.keep hb)
  generalize leastB ⟨xa, xb, xc, xd⟩ = p at b1 G1 ⊢
  generalize leastB ⟨ya, yb, yc, yd⟩ = q at b2 G2 ⊢
  have hpq := hid (show IntKind.i64.wrap (p - q) = p - q by rw [IntKind.wrap_i64]; omega)
  clear hx hy hT
  have hW : Below W.heap.size W ((W.alloc (.cells #[.int .u64 (xa : Int), .int .u64 (xb : Int), .int .u64 (xc : Int), .int .u64 (xd : Int)] 25)).alloc (.cells #[.int .u64 (ya : Int), .int .u64 (yb : Int), .int .u64 (yc : Int), .int .u64 (yd : Int)] 25)).drew := (bl_step (al' W _) (al' _ _)).drew
  have bY : Hid (Blk ((W.alloc (.cells #[.int .u64 (xa : Int), .int .u64 (xb : Int), .int .u64 (xc : Int), .int .u64 (xd : Int)] 25)).alloc (.cells #[.int .u64 (ya : Int), .int .u64 (yb : Int), .int .u64 (yc : Int), .int .u64 (yd : Int)] 25)).drew (W.heap.size + 1) ⟨ya, yb, yc, yd⟩) := hid (two_blocks W _ _).2
  go_enter Tryd.func32, Tryd.ntmps32
  go_wp2_with fail
  go_region_with (first
    | (go_at_call 20; refine (G2.out w3 (hT0.out _ hb3)).mono ?_; rintro e w4 ⟨rfl, hw4'⟩; have hw4 := hid hw4'; clear hw4')
    | (go_at_call 20; refine (G1.out _ (hT0.out _ hW)).mono ?_; rintro e w3 ⟨rfl, hw3'⟩; have hw3 := hid hw3'; clear hw3'; have hb3 : Below W.heap.size W w3 := (by (rw [hw3.out]; exact bl_step hW (al' _ _))); have bY3 : Hid (Blk w3 (W.heap.size + 1) ⟨ya, yb, yc, yd⟩) := (by (rw [hw3.out]; exact hid (bY.out.keep (al' _ _)))); obtain ⟨f0, f1, f2, f3, f4, f5, f6, f7⟩ := bY3.out.cells)
    | fail)
  all_goals
    go_wp2
    go_ret
    exact ⟨congrArg (fun z => Ending.returned (.int .i64 z)) hpq.out, 1, #[.cells #[.int .u64 (xa : Int), .int .u64 (xb : Int), .int .u64 (xc : Int), .int .u64 (xd : Int)] 25, .cells #[.int .u64 (ya : Int), .int .u64 (yb : Int), .int .u64 (yc : Int), .int .u64 (yd : Int)] 25, .cells #[.int .u64 (xa : Int), .int .u64 (xb : Int), .int .u64 (xc : Int), .int .u64 (xd : Int)] 25, .cells #[.int .u64 (ya : Int), .int .u64 (yb : Int), .int .u64 (yc : Int), .int .u64 (yd : Int)] 25], by rw [hw4.out, hw3.out, alloc_eq_grow, alloc_eq_grow, alloc_eq_grow, alloc_eq_grow, drew_grow, drew_grow, grow_grow, grow_grow, grow_grow]; rfl⟩

/-- sets that fit, as elements of a row of four cells each -/
abbrev FS : Type := { S : W4 // Fit4 S }
instance : Inhabited FS := ⟨⟨noneB, noneB_fit⟩⟩
def encS (x : FS) : List Value := [.int .u64 (x.1.a : Int), .int .u64 (x.1.b : Int), .int .u64 (x.1.c : Int), .int .u64 (x.1.d : Int)]
def cfS (x y : FS) : Int := leastB x.1 - leastB y.1
theorem swoS : SWO (ltOf cfS) where
  irrefl x := by simp [ltOf, cfS]
  trans x y z h1 h2 := by
    have a := of_decide_eq_true h1
    have b := of_decide_eq_true h2
    unfold cfS at a b
    exact decide_eq_true (by unfold cfS; omega)
  ntrans x y z h1 h2 := by
    have a := of_decide_eq_false h1
    have b := of_decide_eq_false h2
    unfold cfS at a b
    exact decide_eq_false (by unfold cfS; omega)
def packS (l : List W4) (h : ∀ S ∈ l, Fit4 S) : Array FS := (l.attach.map fun S => (⟨S.1, h S.1 S.2⟩ : FS)).toArray
theorem packS_size (l : List W4) (h : ∀ S ∈ l, Fit4 S) : (packS l h).size = l.length := by simp [packS]
theorem packS_val (l : List W4) (h : ∀ S ∈ l, Fit4 S) : (packS l h).toList.map Subtype.val = l := by
  unfold packS
  rw [List.map_map]
  exact List.attach_map_subtype_val l
theorem encS_word (x : FS) (i : Nat) (hi : i < 4) : (encS x)[i]! = wordV x.1 i := by
  have h4 : i = 0 ∨ i = 1 ∨ i = 2 ∨ i = 3 := by omega
  rcases h4 with rfl | rfl | rfl | rfl <;> rfl
/-- the cells of a row of sets, as the sort and as the lists have them -/
theorem flat_at (d : Array FS) (j : Nat) (hj : j < d.size * 4) : (flatB (d.toList.map Subtype.val))[j]? = some ((flatK encS 4 d)[j]!) := by
  have hq : j / 4 < (d.toList.map Subtype.val).length := by rw [List.length_map, Array.length_toList]; omega
  have h := flatB_at (d.toList.map Subtype.val) (j / 4) (j % 4) hq (by omega)
  rw [show j / 4 * 4 + j % 4 = j by omega] at h
  rw [h, get_flatK _ _ _ j hj, encS_word _ _ (by omega)]
  congr 2
  rw [List.getElem_map, Array.getElem_toList]
  rw [getElem!_pos d (j / 4) (by simpa using hq)]
theorem Tab.sorted {w : World} {g m : Nat} {dk : Array FS} {os : Array Obj} (hT : Tab w) (hg : g ≠ 0) : Tab (sortWorldK encS 4 w g 0 m dk os) := fun j hj => by
  have h := hT j hj
  have hlt := World.block_lt_of_cell? w _ h
  unfold sortWorldK
  rw [cell?_grow _ _ _ (by rw [size_putRowK]; exact hlt), cell?_putRowK_other _ _ _ _ _ _ _ (Ne.symm hg)]
  exact h
theorem cmpS (g m : Nat) (w : World) (hg : g ≠ 0) (hT : Tab w) : CmpLays Tryd.prog 32 #[] encS 4 cfS g 0 m w := fun _ _ _ _ x y =>
  lessE x.1.a x.1.b x.1.c x.1.d y.1.a y.1.b y.1.c y.1.d _ x.2 y.2 (hT.sorted hg)
theorem holdsS {w : World} {B g cap : Nat} {d : Array FS} (h : OwnS w B (.slice (some ⟨g, 0, none⟩) d.size cap) (d.toList.map Subtype.val)) : HoldsK encS 4 w g 0 d := fun j hj => by
  rw [size_flatK] at hj
  have h1 := h.cells rfl j _ (flat_at d j hj)
  rw [Go.WideShapes.add_plain] at h1
  refine ⟨h1, ?_⟩
  have hl : (d.toList.map Subtype.val).length = d.size := by simp
  have h' : w.ownsRow B 25 4 (.slice (some ⟨g, 0, none⟩) d.size cap) d.size (flatB (d.toList.map Subtype.val)) := by
    have := h
    unfold OwnS at this
    rwa [hl] at this
  exact h'.frozenAt _
theorem own_sorted {w : World} {B g cap m : Nat} {d d' : Array FS} {os : Array Obj} (h : OwnS w B (.slice (some ⟨g, 0, none⟩) d.size cap) (d.toList.map Subtype.val)) (hs : d'.size = d.size) :
    OwnS (sortWorldK encS 4 w g 0 m d' os) B (.slice (some ⟨g, 0, none⟩) d.size cap) (d'.toList.map Subtype.val) := by
  have hglt := (h.lt g rfl).2
  have key : OwnS (putRowK encS 4 (Sort.ahead w m) g 0 d') B (.slice (some ⟨g, 0, none⟩) d.size cap) (d'.toList.map Subtype.val) := by
    have hl : (d'.toList.map Subtype.val).length = d.size := by simp [hs]
    rcases h.2 with ⟨e0, _⟩ | ⟨g', cap', cur, e0, hb, hg, hn, hm, hsz, ht⟩
    · cases e0
    · injection e0 with e1 e2 e3
      injection e1 with e1
      injection e1 with e1
      subst e1; subst e3
      unfold OwnS
      refine ⟨flatB_len _, .inr ⟨g, cap, putCells id 0 (flatK encS 4 d') cur, by rw [hl], hb, ?_, by rw [hl]; omega, hm, by simpa [putCells] using hsz, ?_⟩⟩
      · simp [putRowK, putRow, mapBlock, Sort.ahead, Array.getElem?_modify, hg, onCells]
      · rw [hl]
        apply List.ext_getElem?
        intro j
        rw [List.getElem?_take, Array.getElem?_toList]
        by_cases hj : j < d.size * 4
        · have hjc : j < cur.size := by rw [hsz]; have : d.size * 4 ≤ cap * 4 := Nat.mul_le_mul_right 4 (by omega); omega
          rw [if_pos hj, flat_at d' j (by rw [hs]; exact hj)]
          simp only [putCells, Array.getElem?_mapIdx, Array.getElem?_eq_getElem hjc, Option.map_some]
          rw [if_pos (by rw [size_flatK, hs]; omega)]
          simp
        · rw [if_neg hj, List.getElem?_eq_none (by rw [flatB_len, hl]; omega)]
  unfold sortWorldK
  exact own_keep key fun k hk => heap_grow_old _ _ (key.lt k hk).2
theorem below_sorted {w : World} {B g m : Nat} {d' : Array FS} {os : Array Obj} (hg : B ≤ g) (hB : B ≤ w.heap.size) : Below B w (sortWorldK encS 4 w g 0 m d' os) := by
  have h1 : Below B w (putRowK encS 4 (Sort.ahead w m) g 0 d') := below_putRow (Below.refl B w) hg
  unfold sortWorldK
  exact ⟨h1.os, h1.tape, h1.output, Nat.le_trans h1.size (by rw [size_grow]; omega), fun k hk => (heap_grow_old _ _ (Nat.lt_of_lt_of_le hk (Nat.le_trans hB h1.size))).trans (h1.block k hk)⟩

set_option maxHeartbeats 1000000 in
theorem sortC (g cap : Nat) (l : List W4) (w : World) (B : Nat) (hB0 : 0 < B) (hB : B ≤ w.heap.size) (hl : l.length ≤ 256) (hf : ∀ S ∈ l, Fit4 S) (hA : OwnS w B (.slice (some ⟨g, 0, none⟩) l.length cap) l) (hT : Tab w) :
    Calls Tryd.prog 31 #[.slice (some ⟨g, 0, none⟩) l.length cap, .func (.func 32) #[] #[]] w fun e w' =>
      e = .returned (.tuple #[]) ∧ ∃ l', l'.Perm l ∧ l'.Pairwise (fun P Q => leastB P ≤ leastB Q) ∧ OwnS w' B (.slice (some ⟨g, 0, none⟩) l.length cap) l' ∧ Below B w w' := by
  have hsz := packS_size l hf
  have hval := packS_val l hf
  generalize packS l hf = d at hsz hval
  have hA' : OwnS w B (.slice (some ⟨g, 0, none⟩) d.size cap) (d.toList.map Subtype.val) := by rw [hsz, hval]; exact hA
  have hglt := hA.lt g rfl
  have hg0 : g ≠ 0 := by omega
  have eg : ∀ args w, (callFunc 32 args).run Tryd.prog w = .ok (.enter 32 args) w := enters_of Tryd.func32 (by kernel_rfl) rfl
  have hcon := AnyQ.slices_SortFunc Tryd.sortSet 4 Tryd.isAgg25 Tryd.sizeOf25 encS (fun _ => rfl) (fun x v hv => by simp [encS] at hv; rcases hv with rfl | rfl | rfl | rfl <;> rfl) cfS swoS 32 #[] g 0 cap d w eg (cmpS g d.size w hg0 hT) (holdsS hA') hglt.2 (by rw [hsz]; omega)
  change Calls Tryd.prog 31 _ _ _ at hcon
  rw [hsz] at hcon
  refine hcon.mono ?_
  rintro e w' ⟨rfl, d', n, os, hp, hs, rfl⟩
  have hsz' : d'.size = d.size := hp.1
  refine ⟨rfl, d'.toList.map Subtype.val, ?_, ?_, ?_, below_sorted hglt.1 hB⟩
  · have h3 := hp.2.2
    rw [← hsz, ← hsz'] at h3
    rw [Array.extract_size] at h3
    rw [hsz', Array.extract_size] at h3
    have := h3.map Subtype.val
    rwa [hval] at this
  · rw [List.pairwise_map, List.pairwise_iff_getElem]
    intro i j hi hj hij
    simp only [Array.length_toList] at hi hj
    have h := hs i j (Nat.zero_le _) hij (by omega)
    rw [getElem!_pos d' j hj, getElem!_pos d' i hi] at h
    have h := of_decide_eq_false h
    unfold cfS at h
    simp only [Array.getElem_toList]
    omega
  · have := own_sorted (m := n) (os := os) hA' hsz'
    rw [hsz] at this
    exact this

end Go.Proofs.YtpkndedppfdekaaDoor
