/- Has of package bytes. spots.having, behind. -/
import Derived.Test.YtgbecehggdkkmaaJ34
import Derived.Test.YtgbecehggdkkmaaJ33
import Derived.Deep.RegionHeld3
namespace Go.Proofs.Ytgbecehggdkkmaa
open Go.RowKit

theorem has_and (n r : Nat) (hn : n < 18446744073709551616) (hr : r < 64) : bits .and .u64 (n : Int) ((2 ^ r : Nat) : Int) = if n.testBit r then ((2 ^ r : Nat) : Int) else 0 := by
  have h2 : 2 ^ r < 18446744073709551616 := Nat.pow_lt_pow_right (a := 2) (by omega) hr
  have e : n &&& 2 ^ r = if n.testBit r then 2 ^ r else 0 := by
    apply Nat.eq_of_testBit_eq
    intro j
    rw [Nat.testBit_and, Nat.testBit_two_pow]
    by_cases hj : r = j
    · subst hj
      cases hb : n.testBit r <;> simp [Nat.testBit_two_pow_self]
    · cases hb : n.testBit r <;> simp [hj]
  rw [u64_and_nat n _ hn h2, e]
  cases n.testBit r <;> simp
theorem not_zero (r : Bool) (m : Nat) (hm : 0 < m) : (!((if r then (m : Int) else 0) == 0)) = r := by
  cases r
  · rfl
  · have : ((m : Int) == 0) = false := beq_eq_false_iff_ne.2 (by omega)
    simp [this]
set_option maxRecDepth 20000 in
set_option maxHeartbeats 2000000 in
theorem hasC' (a b c d x : Nat) (w : World) (hS : Fit4 ⟨a, b, c, d⟩) (hx : x < 256) :
    Calls Try.prog 48 #[valB ⟨a, b, c, d⟩, .int .u8 (x : Int)] w fun e w' => e = .returned (.bool (hasB ⟨a, b, c, d⟩ x)) ∧ Below w.heap.size w w' := by
  have hq : (x : Int) / 64 = ((x / 64 : Nat) : Int) := by omega
  have hql : x / 64 = 0 ∨ x / 64 = 1 ∨ x / 64 = 2 ∨ x / 64 = 3 := by omega
  have GB := hid (fun u => bitC x u hx)
  have hand := has_and _ (x % 64) (hS.w (x / 64)) (by omega)
  have hpos : 0 < 2 ^ (x % 64) := Nat.two_pow_pos _
  have hh : hasB ⟨a, b, c, d⟩ x = (W4.w ⟨a, b, c, d⟩ (x / 64)).testBit (x % 64) := rfl
  rw [hh]
  generalize (W4.w ⟨a, b, c, d⟩ (x / 64)).testBit (x % 64) = r at hand ⊢
  generalize 2 ^ (x % 64) = m at GB hand hpos ⊢
  generalize x / 64 = q at hq hql hand
  clear hS hh
  have hbd : Below w.heap.size w (w.alloc (.cells #[.int .u64 (a : Int), .int .u64 (b : Int), .int .u64 (c : Int), .int .u64 (d : Int)] 40)).drew := (al' w _).drew
  rcases hql with rfl | rfl | rfl | rfl
  · have hfin : Hid ((!(bits .and .u64 (a : Int) (m : Int) == 0)) = r) := hid (by rw [show bits .and .u64 (a : Int) (m : Int) = if r then (m : Int) else 0 from hand]; exact not_zero r m hpos)
    go_enter Try.func48, Try.ntmps48
    go_wp2_with fail
    go_region_with (first | (go_at_call 59; refine (GB.out _).mono ?_; rintro e u1 ⟨rfl, hu⟩; subst u1) | fail)
    all_goals
      go_wp2
      go_ret
      exact ⟨congrArg Ending.returned (congrArg Value.bool hfin.out), hbd⟩
  · have hfin : Hid ((!(bits .and .u64 (b : Int) (m : Int) == 0)) = r) := hid (by rw [show bits .and .u64 (b : Int) (m : Int) = if r then (m : Int) else 0 from hand]; exact not_zero r m hpos)
    go_enter Try.func48, Try.ntmps48
    go_wp2_with fail
    go_region_with (first | (go_at_call 59; refine (GB.out _).mono ?_; rintro e u1 ⟨rfl, hu⟩; subst u1) | fail)
    all_goals
      go_wp2
      go_ret
      exact ⟨congrArg Ending.returned (congrArg Value.bool hfin.out), hbd⟩
  · have hfin : Hid ((!(bits .and .u64 (c : Int) (m : Int) == 0)) = r) := hid (by rw [show bits .and .u64 (c : Int) (m : Int) = if r then (m : Int) else 0 from hand]; exact not_zero r m hpos)
    go_enter Try.func48, Try.ntmps48
    go_wp2_with fail
    go_region_with (first | (go_at_call 59; refine (GB.out _).mono ?_; rintro e u1 ⟨rfl, hu⟩; subst u1) | fail)
    all_goals
      go_wp2
      go_ret
      exact ⟨congrArg Ending.returned (congrArg Value.bool hfin.out), hbd⟩
  · have hfin : Hid ((!(bits .and .u64 (d : Int) (m : Int) == 0)) = r) := hid (by rw [show bits .and .u64 (d : Int) (m : Int) = if r then (m : Int) else 0 from hand]; exact not_zero r m hpos)
    go_enter Try.func48, Try.ntmps48
    go_wp2_with fail
    go_region_with (first | (go_at_call 59; refine (GB.out _).mono ?_; rintro e u1 ⟨rfl, hu⟩; subst u1) | fail)
    all_goals
      go_wp2
      go_ret
      exact ⟨congrArg Ending.returned (congrArg Value.bool hfin.out), hbd⟩


end Go.Proofs.Ytgbecehggdkkmaa
namespace Go.Proofs.Ytgbecehggdkkmaa
open Go.RowKit

/-- those whose bytes b is one of -/
def havL (S : List W4) (b : Nat) (l : List Int) : List Int := l.filter fun x => hasB (S.getD x.toNat noneB) b
theorem hav_take {S : List W4} {b k : Nat} {l : List Int} (h : k < l.length) : havL S b (l.take (k + 1)) = havL S b (l.take k) ++ (if hasB (S.getD l[k].toNat noneB) b then [l[k]] else []) := by
  unfold havL
  rw [List.take_succ_eq_append_getElem h, List.filter_append]
  congr 1
  simp [List.filter_cons]
theorem hav_yes {S : List W4} {b k m : Nat} {l : List Int} (h : k < l.length) (hm : l[k] = (m : Int)) (hr : hasB (S.getD m noneB) b = true) : havL S b (l.take (k + 1)) = havL S b (l.take k) ++ [(m : Int)] := by
  rw [hav_take h, hm, Int.toNat_natCast, if_pos hr]
theorem hav_no {S : List W4} {b k m : Nat} {l : List Int} (h : k < l.length) (hm : l[k] = (m : Int)) (hr : hasB (S.getD m noneB) b = false) : havL S b (l.take (k + 1)) = havL S b (l.take k) := by
  rw [hav_take h, hm, Int.toNat_natCast, if_neg (by rw [hr]; simp), List.append_nil]
theorem hav_len (S : List W4) (b : Nat) (l : List Int) : (havL S b l).length ≤ l.length := List.length_filter_le _ _

set_option maxRecDepth 20000 in
set_option maxHeartbeats 4000000 in
theorem havingC (sv nv fv lv gv v : Value) (S : List W4) (l : List Int) (b : Nat) (w : World) (hS : Sets w sv S) (hN : Nums w v l) (hi : InN l S.length) (_hs : S.length ≤ 60) (hl : l.length ≤ 1000) (hb : b < 256) :
    Calls Try.prog 32 #[.agg #[sv, nv, fv, lv, gv], v, .int .u8 (b : Int)] w fun e w' => ∃ v', e = .returned v' ∧ Own w' w.heap.size v' (havL S b l) ∧ Below w.heap.size w w' := by
  have hal := hid (al' w (.cells #[sv, nv, fv, lv, gv] 27))
  have hC0 := hid (heap_new w (.cells #[sv, nv, fv, lv, gv] 27))
  have hSk := hid (fun u (hu : Below w.heap.size w u) => hS.keep hu)
  have hNk := hid (fun u (hu : Below w.heap.size w u) => hN.keep hu)
  have hY := hid (fun k m h hm hr => @hav_yes S b k m l h hm hr)
  have hNn := hid (fun k m h hm hr => @hav_no S b k m l h hm hr)
  have hE : Hid (havL S b (l.take l.length) = havL S b l) := hid (by rw [List.take_length])
  have hHl := hid (fun k => Nat.le_trans (hav_len S b (l.take k)) (by rw [List.length_take]; omega : (l.take k).length ≤ 1000))
  have GH := hid (fun x y z q u (hF : Fit4 ⟨x, y, z, q⟩) => hasC' x y z q b u hF hb)
  have hi' := hid (fun k (h : k < l.length) => hi l[k] (List.getElem_mem h))
  obtain ⟨sa, sc, rfl⟩ : ∃ a c, sv = .slice a S.length c := by obtain ⟨a, c, e, _⟩ := hS; exact ⟨a, c, e⟩
  obtain ⟨va, vc, rfl⟩ : ∃ a c, v = .slice a l.length c := by obtain ⟨a, c, e, _⟩ := hN; exact ⟨a, c, e⟩
  clear hS hN hi
  obtain ⟨C0, hC⟩ : ∃ C0 : Obj, C0 = .cells #[.slice sa S.length sc, nv, fv, lv, gv] 27 := ⟨_, rfl⟩
  have hC0 : Hid ((w.alloc C0).heap[w.heap.size]? = some (.cells #[.slice sa S.length sc, nv, fv, lv, gv] 27)) := hid (by rw [hC]; exact hC0.out)
  rw [← hC] at hal
  have hn0 := hid (World.ownsRow_nil (w.alloc C0) (w.alloc C0).heap.size 3 1)
  have hq : w.heap.size < (w.alloc C0).heap.size := by simp
  go_enter Try.func32, Try.ntmps32
  go_wp2
  rw [← hC]
  generalize w.alloc C0 = W0 at *
  clear hC
  go_loopw [7, 12] (fun rv i wr => ∃ k : Nat, k ≤ l.length ∧ i = .int .i64 k ∧ Hid (Own wr W0.heap.size rv (havL S b (l.take k))) ∧ Below W0.heap.size W0 wr) (fun _ i _ => l.length - (intOf i).toNat)
  case atStart => exact ⟨0, Nat.zero_le _, rfl, hn0, Below.refl _ _⟩
  case round =>
    obtain ⟨k, hk, rfl, hO, hbl⟩ := hrel
    by_cases hlt : k < l.length
    · have hltz : (k : Int) < (l.length : Int) := by omega
      have hblw := bl_step hal.out hbl
      obtain ⟨_, _, e0, _, _, hat⟩ := hNk.out wr hblw
      cases e0
      obtain ⟨b1, o1, rfl, hb1, c1⟩ := hat k hlt
      obtain ⟨h0, h1⟩ := hi'.out k hlt
      have hl1 := hHl.out k
      obtain ⟨m, hm⟩ : ∃ m : Nat, l[k] = (m : Int) := ⟨l[k].toNat, by omega⟩
      rw [hm] at c1 h1
      have hms : m < S.length := by omega
      have hmz : (m : Int) < (S.length : Int) := h1
      have hY1 := hid (hY.out k m hlt hm)
      have hN1 := hid (hNn.out k m hlt hm)
      obtain ⟨zb, zo, rfl, hzb, ⟨z0, z1, z2, z3⟩, hzf⟩ := sets_at (hSk.out wr hblw) hms
      obtain ⟨r, hr⟩ : ∃ r, hasB (S.getD m noneB) b = r := ⟨_, rfl⟩
      rw [hr] at hY1 hN1
      obtain ⟨Z, hZ⟩ : ∃ Z, S.getD m noneB = Z := ⟨_, rfl⟩
      rw [hZ] at z0 z1 z2 z3 hzf hr
      clear hZ
      obtain ⟨za, zb', zc, zd⟩ := Z
      simp only at z0 z1 z2 z3
      have GH0 := hid (fun u => GH.out za zb' zc zd u hzf)
      rw [hr] at GH0
      clear hr
      obtain ⟨p0, -, -, -, -, -⟩ := cells5s (hs_keep hC0.out hbl)
      clear hat h0 hm
      cases r with
      | false =>
        have hT2 : Hid (havL S b (l.take (k + 1)) = havL S b (l.take k)) := hid (hN1.out rfl)
        go_wp2_with (go_at_call 48; refine (GH0.out _).mono ?_; rintro e w1 ⟨rfl, hb1'⟩)
        go_roundw
        case rel => exact ⟨k + 1, by omega, by go_num, hid (by rw [hT2.out]; exact own_below hO.out hb1'), bl_step hbl hb1'⟩
        case measure => simp [intOf]; omega
      | true =>
        have hT2 : Hid (havL S b (l.take (k + 1)) = havL S b (l.take k) ++ [(m : Int)]) := hid (hY1.out rfl)
        generalize havL S b (l.take k) = A at hO hT2 hl1
        have hOx := hid (fun u (hu : Below wr.heap.size wr u) => own_below hO.out hu)
        go_wp2_with (first
          | (at_builtin; refine wp_app _ rfl _ _ rfl W0.heap.size A [(m : Int)] _ _ rfl rfl ((hOx.out w1 hb1').alloc _) (Nums.lit1 w1 (m : Int)) (by simp; omega) (Nat.le_trans hbl.size (Nat.le_trans hb1'.size (by simp))) ?_; intro v' w2 hO2 hb2)
          | (go_at_call 48; refine (GH0.out _).mono ?_; rintro e w1 ⟨rfl, hb1'⟩))
        go_roundw
        case rel => exact ⟨k + 1, by omega, by go_num, hid (by rw [hT2.out]; exact hO2), (bl_step hbl (bl_step hb1' (al' w1 _))).trans hb2⟩
        case measure => simp [intOf]; omega
    · have hltz : ¬ (k : Int) < (l.length : Int) := by omega
      obtain rfl : k = l.length := by omega
      rw [hE.out] at hO
      go_wp2
      go_ret
      exact ⟨_, rfl, own_base hO.out (Nat.le_of_lt hq), bl_step hal.out hbl⟩

end Go.Proofs.Ytgbecehggdkkmaa
