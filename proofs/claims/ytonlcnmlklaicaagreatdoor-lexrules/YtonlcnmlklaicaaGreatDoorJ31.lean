/- append onto a list of one's own, in a region that draws its order: where it lies behind it, and that a list that had no room is left as it was. split of package bytes: a list of parts of the call's own, cut by one set. The order of sets by their least bytes, and slices.SortFunc by it. Parts of package bytes: split by each set, then sorted. -/
import Derived.Test.YtonlcnmlklaicaaGreatDoorJ25
import Derived.Test.YtonlcnmlklaicaaGreatDoorJ21
import Derived.Test.YtonlcnmlklaicaaGreatDoorJ30
import Derived.Test.YtonlcnmlklaicaaGreatDoorJ26
import Derived.Test.YtonlcnmlklaicaaGreatDoorJ28
import Derived.Test.YtonlcnmlklaicaaGreatDoorShelfS
import Derived.Deep.AppendLies
import Derived.Deep.RegionLaw
import Derived.Maps.AppendAt
import Derived.Lib.OwnBridge
namespace Go.Proofs.YtonlcnmlklaicaaGreatDoor
open Go.RowKit

theorem run_append_seen {P : Program} (w : World) (t ty : TypeId) (base : Nat) (e : TypeId) (i : TypeInfo) (z : Value) (size bytes : Nat) (ht : P.underlying t = some (.slice e)) (hi : P.info? e = some i) (hz : i.zero = some z)
    (hsize : i.size = size) (hby : i.bytes = bytes) (hzs : z.cells.size = size) (hsz : 0 < size)
    (g n cap : Nat) (xs : List Value) (hown : w.ownsRow base e size (.slice (some ⟨g, 0, none⟩) n cap) n xs)
    (ad : Addr) (m c : Nat) (news : List Value) (hl : news.length = m * size) (hnews : ∀ j u, news[j]? = some u → w.cell? (ad.add j) = some u) (h1 : ∀ u ∈ news, u.oneCell' = true)
    (_hm : 0 < m) (h63 : n + m ≤ maxLen) (hbytes : (n + m) * bytes ≤ 140737488355328) (hbase : base ≤ w.heap.size) :
    ∃ q' c' w', (Builtin.append_ #[t, t] ty #[.slice (some ⟨g, 0, none⟩) n cap, .slice (some ad) m c]).run P w = .ok (.slice (some ⟨q', 0, none⟩) (n + m) c') w' ∧
      w'.ownsRow base e size (.slice (some ⟨q', 0, none⟩) (n + m) c') (n + m) (xs ++ news) ∧ w.grownBy w' (some g) ∧ (q' = g ∨ (q' = w.heap.size ∧ w'.heap[g]? = w.heap[g]?)) := by
  obtain ⟨v', w', hr, h2, h3, h4, h5⟩ := run_append_own_at (P := P) w base t ty e i z size bytes ht hi hz hsize hby hzs hsz _ n xs hown ad m c news hl hnews h1 h63 hbytes hbase
  have hne : v' ≠ .slice none 0 0 := fun e => by have := (h4.1 e).1; cases this
  obtain ⟨q', c', rfl⟩ : ∃ q' c', v' = .slice (some ⟨q', 0, none⟩) (n + m) c' := by
    rcases h2.2 with ⟨e, _⟩ | ⟨g', cap', cur', rfl, _⟩
    · exact absurd e hne
    · exact ⟨_, _, rfl⟩
  refine ⟨q', c', w', hr, h2, h3, ?_⟩
  have hlt := (hown.lt g rfl).2
  have holds : ∀ j u, xs[j]? = some u → w.cell? ((⟨g, 0, none⟩ : Addr).add j) = some u := hown.cells (g := g) rfl
  rcases h5 with h5 | h5
  · left; simpa [Value.ownBlock] using h5
  · rcases hown.2 with ⟨e', _⟩ | ⟨g', cap', cur, e', _, hg, _, _, hcs, _⟩
    · cases e'
    · injection e' with e1 _ e3
      injection e1 with e1
      injection e1 with e1
      subst e1; subst e3
      subst hsize
      subst hby
      by_cases hroom : n + m ≤ cap
      · left
        have hfit : n * i.size + news.length ≤ cur.size := by rw [hl, hcs, ← Nat.add_mul]; exact Nat.mul_le_mul_right _ hroom
        have hr' := run_append_room (P := P) w t ty e i ht hi g n cap cur hg ad m c news hl hnews h1 hroom hfit
        rw [hr'] at hr
        injection hr with hr _
        injection hr with hr _
        injection hr with hr
        injection hr with hr
        exact hr.symm
      · right
        refine ⟨by simpa [Value.ownBlock] using h5, ?_⟩
        have hsmall : n + m ≤ 9223372036854775807 := by simp only [maxLen] at h63; omega
        have hr' := run_append_grow (P := P) w t ty e i z ht hi hz ⟨g, 0, none⟩ n cap xs hown.1 holds ad m c news hl hnews (by omega) (by omega) (growslice_fits (by omega) hbytes)
        rw [hr'] at hr
        injection hr with _ hw
        rw [← hw]
        exact heap_alloc_old w.drew _ hlt

theorem step_append_seen {P : Program} {w : World} {ops : Array Oper} {o : Oper} {a : Act} {K : Act → World → Prop} {Q : Exit → Act → World → Prop} {E : Prop} (hgd : o.guard = none) (s x : Operand) (t : TypeId)
    (ho : o.op = .call { callee := .builtin .append, args := #[s, x], argTypes := #[t, t] })
    (base : Nat) (e : TypeId) (i : TypeInfo) (z : Value) (size bytes : Nat) (ht : P.underlying t = some (.slice e)) (hi : P.info? e = some i) (hz : i.zero = some z)
    (hsize : i.size = size) (hby : i.bytes = bytes) (hzs : z.cells.size = size) (hsz : 0 < size)
    (g n cap : Nat) (xs : List Value) (hs : a.eval s = .slice (some ⟨g, 0, none⟩) n cap) (hown : w.ownsRow base e size (.slice (some ⟨g, 0, none⟩) n cap) n xs)
    (ad : Addr) (m c : Nat) (news : List Value) (hx : a.eval x = .slice (some ad) m c) (hl : news.length = m * size) (hnews : ∀ j u, news[j]? = some u → w.cell? (ad.add j) = some u) (h1 : ∀ u ∈ news, u.oneCell' = true)
    (hm : 0 < m) (h63 : n + m ≤ maxLen) (hbytes : (n + m) * bytes ≤ 140737488355328) (hbase : base ≤ w.heap.size)
    (h : ∀ q' c' w', w'.ownsRow base e size (.slice (some ⟨q', 0, none⟩) (n + m) c') (n + m) (xs ++ news) → w.grownBy w' (some g) → (q' = g ∨ (q' = w.heap.size ∧ w'.heap[g]? = w.heap[g]?)) → K (a.put o.dst (.slice (some ⟨q', 0, none⟩) (n + m) c')) w') :
    if Region.wanted o (yielded ops a.tmps) = true then Oper.wp P o a w K Q else E := by
  have hw : Region.wanted o (yielded ops a.tmps) = true := by simp [Region.wanted, hgd]
  rw [if_pos hw]
  obtain ⟨q', c', w', hr, h2, h3, h4⟩ := run_append_seen (P := P) w t o.type base e i z size bytes ht hi hz hsize hby hzs hsz g n cap xs hown ad m c news hl hnews h1 hm h63 hbytes hbase
  unfold Oper.wp execOp
  simp only [ho, resolve, invoke, builtin, Sem.run_bind, Sem.run_pure, Result.andThen_ok, List.map_toArray, List.map_cons, List.map_nil, hs, hx, hr]
  exact h q' c' w' h2 h3 h4


end Go.Proofs.YtonlcnmlklaicaaGreatDoor
namespace Go.Proofs.YtonlcnmlklaicaaGreatDoor
open Go.RowKit

set_option maxRecDepth 20000 in
theorem andW (S T : W4) (u : World) (hS : Fit4 S) (hT : Fit4 T) : Calls Tryz.prog 57 #[valB S, valB T] u fun e w' => e = .returned (valB (andB S T)) ∧ Below u.heap.size u w' := andC S.a S.b S.c S.d T.a T.b T.c T.d u hS hT
set_option maxRecDepth 20000 in
theorem notW (S : W4) (u : World) (hS : Fit4 S) : Calls Tryz.prog 37 #[valB S] u fun e w' => e = .returned (valB (notB S)) ∧ Below u.heap.size u w' := notC S.a S.b S.c S.d u hS
theorem flatS_set : ∀ (l : List W4) (k : Nat) (S : W4), k < l.length → flatS (l.set k S) = ((((flatS l).set (k * 4) (.int .u64 (S.a : Int))).set (k * 4 + 1) (.int .u64 (S.b : Int))).set (k * 4 + 2) (.int .u64 (S.c : Int))).set (k * 4 + 3) (.int .u64 (S.d : Int))
  | T :: t, 0, S, _ => by simp [flatS]
  | T :: t, k + 1, S, hk => by
    have ih := flatS_set t k S (by simpa using hk)
    rw [List.set_cons_succ]
    unfold flatS at ih ⊢
    rw [List.flatMap_cons, ih, List.flatMap_cons]
    rw [show (k + 1) * 4 + 1 = k * 4 + 1 + 4 by omega, show (k + 1) * 4 + 2 = k * 4 + 2 + 4 by omega, show (k + 1) * 4 + 3 = k * 4 + 3 + 4 by omega, show (k + 1) * 4 = k * 4 + 4 by omega]
    rfl
/-- a set stored into a list of one's own -/
def putK (w : World) (q k : Nat) (S : W4) : World := (((w.setCell ⟨q, k * 4, none⟩ (.int .u64 (S.a : Int))).setCell ⟨q, k * 4 + 1, none⟩ (.int .u64 (S.b : Int))).setCell ⟨q, k * 4 + 2, none⟩ (.int .u64 (S.c : Int))).setCell ⟨q, k * 4 + 3, none⟩ (.int .u64 (S.d : Int))
theorem OwnS.put {w : World} {B q c k : Nat} {l : List W4} (S : W4) (h : OwnS w B (.slice (some ⟨q, 0, none⟩) l.length c) l) (hk : k < l.length) : OwnS (putK w q k S) B (.slice (some ⟨q, 0, none⟩) l.length c) (l.set k S) := by
  have h1 := (h.stored (k * 4) (.int .u64 (S.a : Int))).1
  have h2 := (h1.stored (k * 4 + 1) (.int .u64 (S.b : Int))).1
  have h3 := (h2.stored (k * 4 + 2) (.int .u64 (S.c : Int))).1
  have h4 := (h3.stored (k * 4 + 3) (.int .u64 (S.d : Int))).1
  unfold OwnS
  rw [flatS_set l k S hk, List.length_set]
  exact h4
theorem bl_putK {B : Nat} {u w : World} (h : Below B u w) {q : Nat} (k : Nat) (S : W4) (hb : B ≤ q) : Below B u (putK w q k S) := bl_set (bl_set (bl_set (bl_set h _ _ _ hb) _ _ _ hb) _ _ _ hb) _ _ _ hb
theorem putK_block (w : World) (q k b : Nat) (S : W4) (hb : b ≠ q) : (putK w q k S).heap[b]? = w.heap[b]? := by
  unfold putK
  rw [Below.heap_setCell _ _ _ _ (by simpa using hb), Below.heap_setCell _ _ _ _ (by simpa using hb), Below.heap_setCell _ _ _ _ (by simpa using hb), Below.heap_setCell _ _ _ _ (by simpa using hb)]

theorem putK_at {w : World} {q k g j : Nat} {T : W4} (S : W4) (h : At4 w g (j * 4) T) (hne : q = g → j ≠ k) : At4 (putK w q k S) g (j * 4) T := by
  have key : ∀ (u : World) (a b : Nat) (v : Value), a < 4 → b < 4 → (u.setCell ⟨q, k * 4 + a, none⟩ v).cell? ⟨g, j * 4 + b, none⟩ = u.cell? ⟨g, j * 4 + b, none⟩ := fun u a b v ha hb => World.cell?_setCell_other _ _ _ _ (by
    intro e
    injection e with e1 e2
    have := hne e1
    omega)
  refine at4_of fun i hi => ?_
  have h' := h.word i hi
  unfold putK
  rw [key _ 3 i _ (by omega) hi, key _ 2 i _ (by omega) hi, key _ 1 i _ (by omega) hi]
  have := key w 0 i (.int .u64 (S.a : Int)) (by omega) hi
  rw [Nat.add_zero] at this
  rw [this]
  exact h'
theorem At4.blk {w w' : World} {g o : Nat} {T : W4} (h : At4 w g o T) (hb : w'.heap[g]? = w.heap[g]?) : At4 w' g o T := at4_of fun i hi => (World.cell?_of_block (a := ⟨g, o + i, none⟩) hb).trans (h.word i hi)
theorem At4.lt {w : World} {g o : Nat} {T : W4} (h : At4 w g o T) : g < w.heap.size := World.block_lt_of_cell? w _ h.1
theorem bl_stepB {B : Nat} {w u w1 : World} (hB : B ≤ w.heap.size) (h : Below B w u) (hb : Below u.heap.size u w1) : Below B w w1 := h.trans (hb.mono (Nat.le_trans hB h.size))
/-- an own list's sets, each where it lies -/
theorem OwnS.at {w : World} {B q c n : Nat} {l : List W4} (h : OwnS w B (.slice (some ⟨q, 0, none⟩) n c) l) {j : Nat} {T : W4} (hj : l[j]? = some T) : At4 w q (j * 4) T := by
  have hlt : j < l.length := by
    rcases Nat.lt_or_ge j l.length with h' | h'
    · exact h'
    · rw [List.getElem?_eq_none h'] at hj; cases hj
  rw [List.getElem?_eq_getElem hlt] at hj
  injection hj with hj
  refine at4_of fun i hi => ?_
  have := h.cells rfl (j * 4 + i) _ (flatS_atW l j i hlt hi)
  rw [Go.WideShapes.add_plain] at this
  rw [← hj]
  simpa using this
theorem OwnS.free {w : World} {B q c n : Nat} {l : List W4} (h : OwnS w B (.slice (some ⟨q, 0, none⟩) n c) l) (hn : n = l.length) (o : Nat) : w.frozen? ⟨q, o, none⟩ = false := by
  subst hn
  exact h.frozenAt o

set_option maxRecDepth 20000 in
set_option maxHeartbeats 8000000 in
theorem splitC (v : Value) (l : List W4) (sa sb sc sd : Nat) (w : World) (B : Nat) (hB : B ≤ w.heap.size) (hl0 : 0 < l.length) (hl : l.length ≤ 256) (hf : ∀ P ∈ l, Fit4 P) (hS : Fit4 ⟨sa, sb, sc, sd⟩) (hA : OwnS w B v l) :
    Calls Tryz.prog 38 #[v, valB ⟨sa, sb, sc, sd⟩] w fun e w' => ∃ v', e = .returned v' ∧ OwnS w' B v' (splitL ⟨sa, sb, sc, sd⟩ l) ∧ Below B w w' := by
  obtain ⟨i0, hi, hz0, hz1, hz2⟩ := info_parts Tryz.info65
  have hv0 : v ≠ .slice none 0 0 := by
    intro e
    rcases hA.2 with ⟨_, h0⟩ | ⟨g, cap, cur, rfl, _⟩
    · omega
    · cases e
  obtain ⟨g, cap, rfl, hBg, hglt⟩ : ∃ g cap, v = .slice (some ⟨g, 0, none⟩) l.length cap ∧ B ≤ g ∧ g < w.heap.size := by
    rcases hA.2 with ⟨e, _⟩ | ⟨g, cap, cur, rfl, _⟩
    · exact absurd e hv0
    · exact ⟨g, cap, rfl, (hA.lt g rfl).1, (hA.lt g rfl).2⟩
  have hA0 : Hid (∀ j (hj : j < l.length), At4 w g (j * 4) l[j]) := hid (fun j hj => at4_of fun i hi => by
    have := hA.cells rfl (j * 4 + i) _ (flatS_atW l j i hj hi)
    rw [Go.WideShapes.add_plain] at this
    simpa using this)
  have hF := hid hf
  have GA : Hid (∀ P u, Fit4 P → Calls Tryz.prog 57 #[valB P, .agg #[.int .u64 (sa : Int), .int .u64 (sb : Int), .int .u64 (sc : Int), .int .u64 (sd : Int)]] u fun e w' => e = .returned (valB (andB P ⟨sa, sb, sc, sd⟩)) ∧ Below u.heap.size u w') := hid (fun P u hP => andW P ⟨sa, sb, sc, sd⟩ u hP hS)
  have GN : Hid (∀ u, Calls Tryz.prog 37 #[.agg #[.int .u64 (sa : Int), .int .u64 (sb : Int), .int .u64 (sc : Int), .int .u64 (sd : Int)]] u fun e w' => e = .returned (valB (notB ⟨sa, sb, sc, sd⟩)) ∧ Below u.heap.size u w') := hid (fun u => notW ⟨sa, sb, sc, sd⟩ u hS)
  have GC : Hid (∀ P u, Fit4 P → Calls Tryz.prog 57 #[valB P, valB (notB ⟨sa, sb, sc, sd⟩)] u fun e w' => e = .returned (valB (andB P (notB ⟨sa, sb, sc, sd⟩))) ∧ Below u.heap.size u w') := hid (fun P u hP => andW P (notB ⟨sa, sb, sc, sd⟩) u hP (not_fit _))
  have hidle := hid (fun i hi h => splitI_idle ⟨sa, sb, sc, sd⟩ l i hi h)
  have hcut := hid (fun i hi h => splitI_cut ⟨sa, sb, sc, sd⟩ l i hi h)
  have hlen := hid (fun i hi => splitI_len ⟨sa, sb, sc, sd⟩ l i hi)
  have hmore := hid (fun i hi => splitI_more ⟨sa, sb, sc, sd⟩ l i hi)
  have hend := hid (fun i hi => splitI_end ⟨sa, sb, sc, sd⟩ l i hi)
  have hzero := hid (splitI_zero ⟨sa, sb, sc, sd⟩ l)
  have hxat := hid (fun i j hi hj => splitI_at ⟨sa, sb, sc, sd⟩ l i j hi hj)
  obtain ⟨X, hX⟩ : ∃ X : Nat → List W4, Hid (X = splitI ⟨sa, sb, sc, sd⟩ l) := ⟨_, hid rfl⟩
  rw [← hX.out] at hidle hcut hlen hmore hend hzero hxat
  generalize splitL ⟨sa, sb, sc, sd⟩ l = R at hend ⊢
  have hAz : OwnS w B (.slice (some ⟨g, 0, none⟩) (X 0).length cap) (X 0) := by rw [hzero.out]; exact hA
  have hAz := hid hAz
  have hl00 : (X 0).length = l.length := by rw [hzero.out]
  have hbd0 : Below w.heap.size w ((w.alloc (.cells #[.int .u64 (sa : Int), .int .u64 (sb : Int), .int .u64 (sc : Int), .int .u64 (sd : Int)] 65)).alloc (.cells #[.int .u64 0, .int .u64 0, .int .u64 0, .int .u64 0] 65)) := bl_step (al' w _) (al' _ _)
  clear hX hv0 hA hf hS hzero
  go_enter Tryz.func38, Tryz.ntmps38
  go_wp2
  go_loopw [0, 11] (fun o i wr => ∃ k q c : Nat, k ≤ l.length ∧ i = .int .i64 k ∧ o = .slice (some ⟨q, 0, none⟩) (X k).length c ∧ Hid (OwnS wr B (.slice (some ⟨q, 0, none⟩) (X k).length c) (X k)) ∧ (q = g ∨ w.heap.size + 2 ≤ q) ∧ Hid (∀ j (hj : j < l.length), k ≤ j → At4 wr g (j * 4) l[j]) ∧ Hid (Blk wr w.heap.size ⟨sa, sb, sc, sd⟩) ∧ Hid (Blk wr (w.heap.size + 1) noneB) ∧ Below B w wr) (fun _ i _ => l.length - (intOf i).toNat)
  case atStart => exact ⟨0, g, cap, Nat.zero_le _, rfl, by rw [hl00], hid (own_below hAz.out hbd0), Or.inl rfl, hid (fun j hj _ => (hA0.out j hj).keep hbd0), hid (two_blocks w _ _).1, hid (two_blocks w _ _).2, hbd0.mono hB⟩
  case round =>
    obtain ⟨k, q, c, hk, rfl, rfl, hO, hq, hat, bS, bZ, hbl⟩ := hrel
    by_cases hlt : k < l.length
    · have hltz : (k : Int) < (l.length : Int) := by omega
      have hPf := hid (hF.out _ (List.getElem_mem hlt))
      obtain ⟨d0, d1, d2, d3⟩ := hat.out k hlt (Nat.le_refl _)
      have hid1 := hid (hidle.out k hlt)
      have hcut1 := hid (hcut.out k hlt)
      generalize l[k] = P at hPf d0 d1 d2 d3 hid1 hcut1
      have GA0 := hid (fun u => GA.out P u hPf.out)
      have GC0 := hid (fun u => GC.out P u hPf.out)
      unfold idleQ at hid1 hcut1
      generalize andB P ⟨sa, sb, sc, sd⟩ = I at GA0 hid1 hcut1
      generalize andB P (notB ⟨sa, sb, sc, sd⟩) = J at GC0 hcut1
      generalize notB ⟨sa, sb, sc, sd⟩ = N at GN GC GC0 hcut
      obtain ⟨pa, pb, pc, pd⟩ := P
      obtain ⟨ia, ib, ic, ie⟩ := I
      obtain ⟨ja, jb, jc, jd⟩ := J
      obtain ⟨na, nb, nc, nd⟩ := N
      simp only at d0 d1 d2 d3
      have hal := al' wr (.cells #[.int .u64 (pa : Int), .int .u64 (pb : Int), .int .u64 (pc : Int), .int .u64 (pd : Int)] 65)
      have bP1 : Hid (Blk (wr.alloc (.cells #[.int .u64 (pa : Int), .int .u64 (pb : Int), .int .u64 (pc : Int), .int .u64 (pd : Int)] 65)) wr.heap.size ⟨pa, pb, pc, pd⟩) := hid (heap_new wr _)
      have bS1 := hid (bS.out.keep hal)
      have bZ1 := hid (bZ.out.keep hal)
      have hO1 := hid (own_below hO.out hal)
      have hat1 := hid (fun j hj hkj => (hat.out j hj hkj).keep hal)
      have hbl1 := bl_stepB hB hbl hal
      have hqlt := (hO.out.lt q rfl).2
      have hqB := (hO.out.lt q rfl).1
      obtain ⟨e0, e1, e2, e3, e4, e5, e6, e7⟩ := bS1.out.cells
      have hgt := Tryz.eqGuardType65
      by_cases c1 : (⟨ia, ib, ic, ie⟩ : W4) = noneB
      · have hstep : X (k + 1) = X k := hid1.out (by rw [decide_eq_true c1]; rfl)
        have he : ∀ u, (Op.equalIn 10000 65 (.agg #[.int .u64 (ia : Int), .int .u64 (ib : Int), .int .u64 (ic : Int), .int .u64 (ie : Int)]) (.agg #[.int .u64 0, .int .u64 0, .int .u64 0, .int .u64 0])).run Tryz.prog u = .ok true u := fun u => (equal4 9998 ia ib ic ie 0 0 0 0 u).trans (by rw [decide_eq_true (show (⟨ia, ib, ic, ie⟩ : W4) = ⟨0, 0, 0, 0⟩ from c1)])
        have hstep := hid hstep
        clear c1 hid1 hcut1 hcut hidle GC0 GC
        go_wp2_with (go_at_call 57; refine (GA0.out _).mono ?_; rintro e w1 ⟨rfl, hb1⟩; have bP2 := hid ((bP1.out.keep hb1).keep (al' w1 (.cells #[.int .u64 (ia : Int), .int .u64 (ib : Int), .int .u64 (ic : Int), .int .u64 (ie : Int)] 65))); have bS2 := hid ((bS1.out.keep hb1).keep (al' w1 (.cells #[.int .u64 (ia : Int), .int .u64 (ib : Int), .int .u64 (ic : Int), .int .u64 (ie : Int)] 65))); have bZ2 := hid ((bZ1.out.keep hb1).keep (al' w1 (.cells #[.int .u64 (ia : Int), .int .u64 (ib : Int), .int .u64 (ic : Int), .int .u64 (ie : Int)] 65))); obtain ⟨f0, f1, f2, f3, f4, f5, f6, f7⟩ := bP2.out.cells; obtain ⟨z0, z1, z2, z3, z4, z5, z6, z7⟩ := Blk.cells (sa := 0) (sb := 0) (sc := 0) (sd := 0) bZ2.out)
        have hal2 := al' w1 (.cells #[.int .u64 (ia : Int), .int .u64 (ib : Int), .int .u64 (ic : Int), .int .u64 (ie : Int)] 65)
        exact ⟨⟨k + 1, q, c, by omega, by go_num, by rw [hstep.out], by rw [hstep.out]; exact hid (own_below (own_below hO1.out hb1) hal2), hq, hid (fun j hj hkj => ((hat1.out j hj (by omega)).keep hb1).keep hal2), bS2, bZ2, bl_stepB hB (bl_stepB hB hbl1 hb1) hal2⟩, by simp [intOf]; omega⟩
      · have he : ∀ u, (Op.equalIn 10000 65 (.agg #[.int .u64 (ia : Int), .int .u64 (ib : Int), .int .u64 (ic : Int), .int .u64 (ie : Int)]) (.agg #[.int .u64 0, .int .u64 0, .int .u64 0, .int .u64 0])).run Tryz.prog u = .ok false u := fun u => (equal4 9998 ia ib ic ie 0 0 0 0 u).trans (by rw [decide_eq_false (show ¬ (⟨ia, ib, ic, ie⟩ : W4) = ⟨0, 0, 0, 0⟩ from c1)])
        by_cases c2 : (⟨ia, ib, ic, ie⟩ : W4) = ⟨pa, pb, pc, pd⟩
        · have hstep : X (k + 1) = X k := hid1.out (by rw [decide_eq_true c2, Bool.or_true])
          have he2 : ∀ u, (Op.equalIn 10000 65 (.agg #[.int .u64 (ia : Int), .int .u64 (ib : Int), .int .u64 (ic : Int), .int .u64 (ie : Int)]) (.agg #[.int .u64 (pa : Int), .int .u64 (pb : Int), .int .u64 (pc : Int), .int .u64 (pd : Int)])).run Tryz.prog u = .ok true u := fun u => (equal4 9998 ia ib ic ie pa pb pc pd u).trans (by rw [decide_eq_true c2])
          have hstep := hid hstep
          clear c1 c2 hid1 hcut1 hcut hidle GC0 GC
          go_wp2_with (go_at_call 57; refine (GA0.out _).mono ?_; rintro e w1 ⟨rfl, hb1⟩; have bP2 := hid ((bP1.out.keep hb1).keep (al' w1 (.cells #[.int .u64 (ia : Int), .int .u64 (ib : Int), .int .u64 (ic : Int), .int .u64 (ie : Int)] 65))); have bS2 := hid ((bS1.out.keep hb1).keep (al' w1 (.cells #[.int .u64 (ia : Int), .int .u64 (ib : Int), .int .u64 (ic : Int), .int .u64 (ie : Int)] 65))); have bZ2 := hid ((bZ1.out.keep hb1).keep (al' w1 (.cells #[.int .u64 (ia : Int), .int .u64 (ib : Int), .int .u64 (ic : Int), .int .u64 (ie : Int)] 65))); obtain ⟨f0, f1, f2, f3, f4, f5, f6, f7⟩ := bP2.out.cells; obtain ⟨z0, z1, z2, z3, z4, z5, z6, z7⟩ := Blk.cells (sa := 0) (sb := 0) (sc := 0) (sd := 0) bZ2.out)
          have hal2 := al' w1 (.cells #[.int .u64 (ia : Int), .int .u64 (ib : Int), .int .u64 (ic : Int), .int .u64 (ie : Int)] 65)
          exact ⟨⟨k + 1, q, c, by omega, by go_num, by rw [hstep.out], by rw [hstep.out]; exact hid (own_below (own_below hO1.out hb1) hal2), hq, hid (fun j hj hkj => ((hat1.out j hj (by omega)).keep hb1).keep hal2), bS2, bZ2, bl_stepB hB (bl_stepB hB hbl1 hb1) hal2⟩, by simp [intOf]; omega⟩
        · have hstep : X (k + 1) = (X k).set k ⟨ia, ib, ic, ie⟩ ++ [⟨ja, jb, jc, jd⟩] := hcut1.out (by rw [decide_eq_false c1, decide_eq_false c2]; rfl)
          have he2 : ∀ u, (Op.equalIn 10000 65 (.agg #[.int .u64 (ia : Int), .int .u64 (ib : Int), .int .u64 (ic : Int), .int .u64 (ie : Int)]) (.agg #[.int .u64 (pa : Int), .int .u64 (pb : Int), .int .u64 (pc : Int), .int .u64 (pd : Int)])).run Tryz.prog u = .ok false u := fun u => (equal4 9998 ia ib ic ie pa pb pc pd u).trans (by rw [decide_eq_false c2])
          have hstep := hid hstep
          have hXk := hlen.out k hk
          have hXm := hmore.out k hk
          have hkX : (k : Int) < ((X k).length : Int) := by omega
          have hxk := hid (hxat.out k k (Nat.le_refl _) hlt)
          clear c1 c2 hid1 hcut1 hcut hidle GC
          go_wp2_with (go_at_call 57; refine (GA0.out _).mono ?_; rintro e w1 ⟨rfl, hb1⟩; have bP2 := hid ((bP1.out.keep hb1).keep (al' w1 (.cells #[.int .u64 (ia : Int), .int .u64 (ib : Int), .int .u64 (ic : Int), .int .u64 (ie : Int)] 65))); have bS2 := hid ((bS1.out.keep hb1).keep (al' w1 (.cells #[.int .u64 (ia : Int), .int .u64 (ib : Int), .int .u64 (ic : Int), .int .u64 (ie : Int)] 65))); have bZ2 := hid ((bZ1.out.keep hb1).keep (al' w1 (.cells #[.int .u64 (ia : Int), .int .u64 (ib : Int), .int .u64 (ic : Int), .int .u64 (ie : Int)] 65))); obtain ⟨f0, f1, f2, f3, f4, f5, f6, f7⟩ := bP2.out.cells; obtain ⟨z0, z1, z2, z3, z4, z5, z6, z7⟩ := Blk.cells (sa := 0) (sb := 0) (sc := 0) (sd := 0) bZ2.out; have hO2 := hid (own_below (own_below hO1.out hb1) (al' w1 (.cells #[.int .u64 (ia : Int), .int .u64 (ib : Int), .int .u64 (ic : Int), .int .u64 (ie : Int)] 65))); obtain ⟨t0, t1, t2, t3⟩ := OwnS.at (l := X k) hO2.out hxk.out; have t4 := OwnS.free (l := X k) hO2.out rfl (k * 4); have t5 := OwnS.free (l := X k) hO2.out rfl (k * 4 + 1); have t6 := OwnS.free (l := X k) hO2.out rfl (k * 4 + 2); have t7 := OwnS.free (l := X k) hO2.out rfl (k * 4 + 3))
          have hqS : w.heap.size ≠ q := by rcases hq with h | h <;> omega
          have hqZ : w.heap.size + 1 ≠ q := by rcases hq with h | h <;> omega
          have hqP : wr.heap.size ≠ q := by omega
          have bP3 : Blk (putK (w1.alloc (.cells #[.int .u64 (ia : Int), .int .u64 (ib : Int), .int .u64 (ic : Int), .int .u64 (ie : Int)] 65)) q k ⟨ia, ib, ic, ie⟩) wr.heap.size ⟨pa, pb, pc, pd⟩ := (putK_block (w1.alloc (.cells #[.int .u64 (ia : Int), .int .u64 (ib : Int), .int .u64 (ic : Int), .int .u64 (ie : Int)] 65)) q k _ ⟨ia, ib, ic, ie⟩ hqP).trans bP2.out
          have bS3 : Blk (putK (w1.alloc (.cells #[.int .u64 (ia : Int), .int .u64 (ib : Int), .int .u64 (ic : Int), .int .u64 (ie : Int)] 65)) q k ⟨ia, ib, ic, ie⟩) w.heap.size ⟨sa, sb, sc, sd⟩ := (putK_block (w1.alloc (.cells #[.int .u64 (ia : Int), .int .u64 (ib : Int), .int .u64 (ic : Int), .int .u64 (ie : Int)] 65)) q k _ ⟨ia, ib, ic, ie⟩ hqS).trans bS2.out
          have bZ3 : Blk (putK (w1.alloc (.cells #[.int .u64 (ia : Int), .int .u64 (ib : Int), .int .u64 (ic : Int), .int .u64 (ie : Int)] 65)) q k ⟨ia, ib, ic, ie⟩) (w.heap.size + 1) noneB := (putK_block (w1.alloc (.cells #[.int .u64 (ia : Int), .int .u64 (ib : Int), .int .u64 (ic : Int), .int .u64 (ie : Int)] 65)) q k _ ⟨ia, ib, ic, ie⟩ hqZ).trans bZ2.out
          have hO3 : (putK (w1.alloc (.cells #[.int .u64 (ia : Int), .int .u64 (ib : Int), .int .u64 (ic : Int), .int .u64 (ie : Int)] 65)) q k ⟨ia, ib, ic, ie⟩).ownsRow B 65 4 (.slice (some ⟨q, 0, none⟩) (X k).length c) (X k).length (flatS ((X k).set k ⟨ia, ib, ic, ie⟩)) := by
            have h := OwnS.put (l := X k) (k := k) ⟨ia, ib, ic, ie⟩ hO2.out (by omega)
            unfold OwnS at h
            rw [List.length_set] at h
            exact h
          have hat3 : ∀ j (hj : j < l.length), k + 1 ≤ j → At4 (putK (w1.alloc (.cells #[.int .u64 (ia : Int), .int .u64 (ib : Int), .int .u64 (ic : Int), .int .u64 (ie : Int)] 65)) q k ⟨ia, ib, ic, ie⟩) g (j * 4) l[j] := fun j hj hkj => putK_at ⟨ia, ib, ic, ie⟩ (((hat1.out j hj (by omega)).keep hb1).keep (al' w1 (.cells #[.int .u64 (ia : Int), .int .u64 (ib : Int), .int .u64 (ic : Int), .int .u64 (ie : Int)] 65))) (fun _ => by omega)
          have hbl3 : Below B w (putK (w1.alloc (.cells #[.int .u64 (ia : Int), .int .u64 (ib : Int), .int .u64 (ic : Int), .int .u64 (ie : Int)] 65)) q k ⟨ia, ib, ic, ie⟩) := bl_putK (bl_stepB hB (bl_stepB hB hbl1 hb1) (al' w1 (.cells #[.int .u64 (ia : Int), .int .u64 (ib : Int), .int .u64 (ic : Int), .int .u64 (ie : Int)] 65))) k ⟨ia, ib, ic, ie⟩ hqB
          clear bP2 bS2 bZ2 hO2 hat1 hbl1 hb1 f0 f1 f2 f3 f4 f5 f6 f7 z0 z1 z2 z3 z4 z5 z6 z7 t0 t1 t2 t3 t4 t5 t6 t7 d0 d1 d2 d3 e0 e1 e2 e3 e4 e5 e6 e7 bP1 bS1 bZ1 hO1 hat bS bZ hbl hO hal
          change Code.wp _ _ _ _ (putK (w1.alloc (.cells #[.int .u64 (ia : Int), .int .u64 (ib : Int), .int .u64 (ic : Int), .int .u64 (ie : Int)] 65)) q k ⟨ia, ib, ic, ie⟩)
          generalize (putK (w1.alloc (.cells #[.int .u64 (ia : Int), .int .u64 (ib : Int), .int .u64 (ic : Int), .int .u64 (ie : Int)] 65)) q k ⟨ia, ib, ic, ie⟩) = w3 at bP3 bS3 bZ3 hO3 hat3 hbl3 ⊢
          have hbd : Below w3.heap.size w3 w3.drew := (Below.refl _ _).drew
          have bP4 := hid (bP3.keep hbd)
          have bS4 := hid (bS3.keep hbd)
          have bZ4 := hid (bZ3.keep hbd)
          have hO4 := hid (own_below hO3 hbd)
          have hat4 := hid (fun j hj hkj => (hat3 j hj hkj).keep hbd)
          have hbl4 := bl_stepB hB hbl3 hbd
          clear bP3 bS3 bZ3 hO3 hat3 hbl3
          obtain ⟨f0, f1, f2, f3, f4, f5, f6, f7⟩ := bP4.out.cells
          obtain ⟨e0, e1, e2, e3, e4, e5, e6, e7⟩ := bS4.out.cells
          go_region_law ((first
            | (refine step_append_seen (by rfl) (.tmp 31) (.tmp 36) 68 (by rfl) B 65 i0 (.agg #[.int .u64 0, .int .u64 0, .int .u64 0, .int .u64 0]) 4 32 Tryz.underlying68 hi hz0 hz1 hz2 rfl (by decide) q (X k).length c (flatS ((X k).set k ⟨ia, ib, ic, ie⟩)) (by rfl) (own_below hO6.out (al' w6 (.cells #[.int .u64 (ja : Int), .int .u64 (jb : Int), .int .u64 (jc : Int), .int .u64 (jd : Int)] 65))) ⟨w6.heap.size, 0, none⟩ 1 1 [.int .u64 (ja : Int), .int .u64 (jb : Int), .int .u64 (jc : Int), .int .u64 (jd : Int)] (by rfl) (by rfl) (news4 w6 ja jb jc jd) (by (intro u hu; simp at hu; rcases hu with rfl | rfl | rfl | rfl <;> rfl)) (by omega) (by (unfold maxLen; omega)) (by omega) (Nat.le_trans hB (bl_stepB hB hbl6 (al' w6 (.cells #[.int .u64 (ja : Int), .int .u64 (jb : Int), .int .u64 (jc : Int), .int .u64 (jd : Int)] 65))).size) ?_; intro q' c' w7 hO7 hg7 hc7)
            | (refine step_call (by rfl) 37 #[.agg #[.int .u64 (sa : Int), .int .u64 (sb : Int), .int .u64 (sc : Int), .int .u64 (sd : Int)]] (by go_simp) (GN.out _) ?_; rintro e w5 ⟨rfl, hb5⟩; refine ⟨_, rfl, ?_⟩; have bP5 := hid (bP4.out.keep hb5); have bS5 := hid (bS4.out.keep hb5); have bZ5 := hid (bZ4.out.keep hb5); have hO5 := hid (own_below hO4.out hb5); have hat5 := hid (fun j hj hkj => (hat4.out j hj hkj).keep hb5); have hbl5 := bl_stepB hB hbl4 hb5; obtain ⟨g0, g1, g2, g3, g4, g5, g6, g7⟩ := bP5.out.cells)
            | (refine step_call (by rfl) 57 #[.agg #[.int .u64 (pa : Int), .int .u64 (pb : Int), .int .u64 (pc : Int), .int .u64 (pd : Int)], .agg #[.int .u64 (na : Int), .int .u64 (nb : Int), .int .u64 (nc : Int), .int .u64 (nd : Int)]] (by go_simp) (GC0.out _) ?_; rintro e w6 ⟨rfl, hb6⟩; refine ⟨_, rfl, ?_⟩; have bS6 := hid (bS5.out.keep hb6); have bZ6 := hid (bZ5.out.keep hb6); have hO6 := hid (own_below hO5.out hb6); have hat6 := hid (fun j hj hkj => (hat5.out j hj hkj).keep hb6); have hbl6 := bl_stepB hB hbl5 hb6)))
          all_goals
            go_wp2
            have hX1 : (X (k + 1)).length = (X k).length + 1 := by rw [hstep.out]; simp
            have hO8 : OwnS w7 B (.slice (some ⟨q', 0, none⟩) (X (k + 1)).length c') (X (k + 1)) := by
              unfold OwnS
              rw [hX1, hstep.out, flatS_app]
              exact hO7
            have halJ := al' w6 (.cells #[.int .u64 (ja : Int), .int .u64 (jb : Int), .int .u64 (jc : Int), .int .u64 (jd : Int)] 65)
            have bS7 := bS6.out.keep halJ
            have bZ7 := bZ6.out.keep halJ
            have hat7 := fun j hj hkj => (hat6.out j hj hkj).keep halJ
            have hbl7 := bl_stepB hB hbl6 halJ
            have hgl : g < (w6.alloc (.cells #[.int .u64 (ja : Int), .int .u64 (jb : Int), .int .u64 (jc : Int), .int .u64 (jd : Int)] 65)).heap.size := by have := hbl7.size; omega
            exact ⟨⟨k + 1, q', c', by omega, by go_num, by rw [hX1], hid hO8, by
                rcases hc7 with e | ⟨e, _⟩
                · rw [e]; exact hq
                · right; rw [e]; have := bZ7.lt; omega, hid (fun j hj hkj => by
                by_cases hqg : q = g
                · rcases hc7 with e | ⟨e, hblk⟩
                  · have h := OwnS.at (l := X (k + 1)) hO8 (hxat.out (k + 1) j hkj hj)
                    rw [e, hqg] at h
                    exact h
                  · exact (hat7 j hj hkj).blk (by rw [← hqg]; exact hblk)
                · exact (hat7 j hj hkj).blk (hg7.block g hgl (fun e => by injection e with e; exact hqg e.symm))), hid ((hg7.block _ bS7.lt (fun e => by injection e with e; exact hqS e)).trans bS7), hid ((hg7.block _ bZ7.lt (fun e => by injection e with e; exact hqZ e)).trans bZ7), hbl7.grown hg7 (Nat.le_trans hB hbl7.size) (fun k' hk' => by injection hk' with hk'; omega)⟩, by simp [intOf]; omega⟩
    · have hltz : ¬ (k : Int) < (l.length : Int) := by omega
      have hR := hid (hend.out k (by omega))
      go_wp2
      go_ret
      exact ⟨_, rfl, by rw [← hR.out]; exact hO.out, hbl⟩

end Go.Proofs.YtonlcnmlklaicaaGreatDoor
namespace Go.Proofs.YtonlcnmlklaicaaGreatDoor
open Go.RowKit Go.Sort Go.Lib

theorem leastFrom_bd (S : W4) : ∀ n k, (-1 : Int) ≤ leastFrom S k n ∧ leastFrom S k n < ((k + n : Nat) : Int) + 1
  | 0, k => by rw [leastFrom_zero]; omega
  | n + 1, k => by
    rw [leastFrom_succ]
    have := leastFrom_bd S n (k + 1)
    split <;> omega
theorem least_bd (S : W4) : (-1 : Int) ≤ leastB S ∧ leastB S ≤ 256 := by
  have := leastFrom_bd S 256 0
  rw [leastB_eq]
  omega

set_option maxRecDepth 20000 in
set_option maxHeartbeats 2000000 in
/-- the closure that Parts sorts by: the difference of the least bytes; it lays four blocks -/
theorem lessE (xa xb xc xd ya yb yc yd : Nat) (W : World) (hx : Fit4 ⟨xa, xb, xc, xd⟩) (hy : Fit4 ⟨ya, yb, yc, yd⟩) (hT : Tab W) :
    Calls Tryz.prog 40 #[valB ⟨xa, xb, xc, xd⟩, valB ⟨ya, yb, yc, yd⟩] W fun e w' => e = .returned (.int .i64 (leastB ⟨xa, xb, xc, xd⟩ - leastB ⟨ya, yb, yc, yd⟩)) ∧ ∃ q os', w' = grow (W.drewN q) os' := by
  have b1 := least_bd ⟨xa, xb, xc, xd⟩
  have b2 := least_bd ⟨ya, yb, yc, yd⟩
  have G1 := hid (fun u hu => leastE xa xb xc xd u hx hu)
  have G2 := hid (fun u hu => leastE ya yb yc yd u hy hu)
  have hT0 := hid (fun u (hb : Below W.heap.size W u) => hT.keep hb)
  generalize leastB ⟨xa, xb, xc, xd⟩ = p at b1 G1 ⊢
  generalize leastB ⟨ya, yb, yc, yd⟩ = q at b2 G2 ⊢
  have hpq := hid (show IntKind.i64.wrap (p - q) = p - q by rw [IntKind.wrap_i64]; omega)
  clear hx hy hT
  have hW : Below W.heap.size W ((W.alloc (.cells #[.int .u64 (xa : Int), .int .u64 (xb : Int), .int .u64 (xc : Int), .int .u64 (xd : Int)] 65)).alloc (.cells #[.int .u64 (ya : Int), .int .u64 (yb : Int), .int .u64 (yc : Int), .int .u64 (yd : Int)] 65)).drew := (bl_step (al' W _) (al' _ _)).drew
  have bY : Hid (Blk ((W.alloc (.cells #[.int .u64 (xa : Int), .int .u64 (xb : Int), .int .u64 (xc : Int), .int .u64 (xd : Int)] 65)).alloc (.cells #[.int .u64 (ya : Int), .int .u64 (yb : Int), .int .u64 (yc : Int), .int .u64 (yd : Int)] 65)).drew (W.heap.size + 1) ⟨ya, yb, yc, yd⟩) := hid (two_blocks W _ _).2
  go_enter Tryz.func40, Tryz.ntmps40
  go_wp2_with fail
  go_region_with (first
    | (go_at_call 41; refine (G2.out w3 (hT0.out _ hb3)).mono ?_; rintro e w4 ⟨rfl, hw4'⟩; have hw4 := hid hw4'; clear hw4')
    | (go_at_call 41; refine (G1.out _ (hT0.out _ hW)).mono ?_; rintro e w3 ⟨rfl, hw3'⟩; have hw3 := hid hw3'; clear hw3'; have hb3 : Below W.heap.size W w3 := (by (rw [hw3.out]; exact bl_step hW (al' _ _))); have bY3 : Hid (Blk w3 (W.heap.size + 1) ⟨ya, yb, yc, yd⟩) := (by (rw [hw3.out]; exact hid (bY.out.keep (al' _ _)))); obtain ⟨f0, f1, f2, f3, f4, f5, f6, f7⟩ := bY3.out.cells)
    | fail)
  all_goals
    go_wp2
    go_ret
    exact ⟨congrArg (fun z => Ending.returned (.int .i64 z)) hpq.out, 1, #[.cells #[.int .u64 (xa : Int), .int .u64 (xb : Int), .int .u64 (xc : Int), .int .u64 (xd : Int)] 65, .cells #[.int .u64 (ya : Int), .int .u64 (yb : Int), .int .u64 (yc : Int), .int .u64 (yd : Int)] 65, .cells #[.int .u64 (xa : Int), .int .u64 (xb : Int), .int .u64 (xc : Int), .int .u64 (xd : Int)] 65, .cells #[.int .u64 (ya : Int), .int .u64 (yb : Int), .int .u64 (yc : Int), .int .u64 (yd : Int)] 65], by rw [hw4.out, hw3.out, alloc_eq_grow, alloc_eq_grow, alloc_eq_grow, alloc_eq_grow, drew_grow, drew_grow, grow_grow, grow_grow, grow_grow]; rfl⟩

/-- sets that fit, as elements of a row of four cells each -/
abbrev FS : Type := { S : W4 // Fit4 S }
instance : Inhabited FS := ⟨⟨noneB, noneB_fit⟩⟩
def encS (x : FS) : List Value := [.int .u64 (x.1.a : Int), .int .u64 (x.1.b : Int), .int .u64 (x.1.c : Int), .int .u64 (x.1.d : Int)]
def cfS (x y : FS) : Int := leastB x.1 - leastB y.1
theorem swoS : SWO (ltOf cfS) where
  irrefl x := by simp [ltOf, cfS]
  trans x y z h1 h2 := by
    have a := of_decide_eq_true h1
    have b := of_decide_eq_true h2
    unfold cfS at a b
    exact decide_eq_true (by unfold cfS; omega)
  ntrans x y z h1 h2 := by
    have a := of_decide_eq_false h1
    have b := of_decide_eq_false h2
    unfold cfS at a b
    exact decide_eq_false (by unfold cfS; omega)
def packS (l : List W4) (h : ∀ S ∈ l, Fit4 S) : Array FS := (l.attach.map fun S => (⟨S.1, h S.1 S.2⟩ : FS)).toArray
theorem packS_size (l : List W4) (h : ∀ S ∈ l, Fit4 S) : (packS l h).size = l.length := by simp [packS]
theorem packS_val (l : List W4) (h : ∀ S ∈ l, Fit4 S) : (packS l h).toList.map Subtype.val = l := by
  unfold packS
  rw [List.map_map]
  exact List.attach_map_subtype_val l
theorem encS_word (x : FS) (i : Nat) (hi : i < 4) : (encS x)[i]! = wordV x.1 i := by
  have h4 : i = 0 ∨ i = 1 ∨ i = 2 ∨ i = 3 := by omega
  rcases h4 with rfl | rfl | rfl | rfl <;> rfl
/-- the cells of a row of sets, as the sort and as the lists have them -/
theorem flat_at (d : Array FS) (j : Nat) (hj : j < d.size * 4) : (flatS (d.toList.map Subtype.val))[j]? = some ((flatK encS 4 d)[j]!) := by
  have hq : j / 4 < (d.toList.map Subtype.val).length := by rw [List.length_map, Array.length_toList]; omega
  have h := flatS_atW (d.toList.map Subtype.val) (j / 4) (j % 4) hq (by omega)
  rw [show j / 4 * 4 + j % 4 = j by omega] at h
  rw [h, get_flatK _ _ _ j hj, encS_word _ _ (by omega)]
  congr 2
  rw [List.getElem_map, Array.getElem_toList]
  rw [getElem!_pos d (j / 4) (by simpa using hq)]
theorem Tab.sorted {w : World} {g m : Nat} {dk : Array FS} {os : Array Obj} (hT : Tab w) (hg : g ≠ 0) : Tab (sortWorldK encS 4 w g 0 m dk os) := fun j hj => by
  have h := hT j hj
  have hlt := World.block_lt_of_cell? w _ h
  unfold sortWorldK
  rw [cell?_grow _ _ _ (by rw [size_putRowK]; exact hlt), cell?_putRowK_other _ _ _ _ _ _ _ (Ne.symm hg)]
  exact h
set_option maxRecDepth 20000 in
theorem cmpS (g m : Nat) (w : World) (hg : g ≠ 0) (hT : Tab w) : CmpLays Tryz.prog 40 #[] encS 4 cfS g 0 m w := fun _ _ _ _ x y =>
  lessE x.1.a x.1.b x.1.c x.1.d y.1.a y.1.b y.1.c y.1.d _ x.2 y.2 (hT.sorted hg)
theorem holdsS {w : World} {B g cap : Nat} {d : Array FS} (h : OwnS w B (.slice (some ⟨g, 0, none⟩) d.size cap) (d.toList.map Subtype.val)) : HoldsK encS 4 w g 0 d := fun j hj => by
  rw [size_flatK] at hj
  have h1 := h.cells rfl j _ (flat_at d j hj)
  rw [Go.WideShapes.add_plain] at h1
  refine ⟨h1, ?_⟩
  have hl : (d.toList.map Subtype.val).length = d.size := by simp
  have h' : w.ownsRow B 65 4 (.slice (some ⟨g, 0, none⟩) d.size cap) d.size (flatS (d.toList.map Subtype.val)) := by
    have := h
    unfold OwnS at this
    rwa [hl] at this
  exact h'.frozenAt _
theorem own_sorted {w : World} {B g cap m : Nat} {d d' : Array FS} {os : Array Obj} (h : OwnS w B (.slice (some ⟨g, 0, none⟩) d.size cap) (d.toList.map Subtype.val)) (hs : d'.size = d.size) :
    OwnS (sortWorldK encS 4 w g 0 m d' os) B (.slice (some ⟨g, 0, none⟩) d.size cap) (d'.toList.map Subtype.val) := by
  have hglt := (h.lt g rfl).2
  have key : OwnS (putRowK encS 4 (Sort.ahead w m) g 0 d') B (.slice (some ⟨g, 0, none⟩) d.size cap) (d'.toList.map Subtype.val) := by
    have hl : (d'.toList.map Subtype.val).length = d.size := by simp [hs]
    rcases h.2 with ⟨e0, _⟩ | ⟨g', cap', cur, e0, hb, hg, hn, hm, hsz, ht⟩
    · cases e0
    · injection e0 with e1 e2 e3
      injection e1 with e1
      injection e1 with e1
      subst e1; subst e3
      unfold OwnS
      refine ⟨flatS_len _, .inr ⟨g, cap, putCells id 0 (flatK encS 4 d') cur, by rw [hl], hb, ?_, by rw [hl]; omega, hm, by simpa [putCells] using hsz, ?_⟩⟩
      · simp [putRowK, putRow, mapBlock, Sort.ahead, Array.getElem?_modify, hg, onCells]
      · rw [hl]
        apply List.ext_getElem?
        intro j
        rw [List.getElem?_take, Array.getElem?_toList]
        by_cases hj : j < d.size * 4
        · have hjc : j < cur.size := by rw [hsz]; have : d.size * 4 ≤ cap * 4 := Nat.mul_le_mul_right 4 (by omega); omega
          rw [if_pos hj, flat_at d' j (by rw [hs]; exact hj)]
          simp only [putCells, Array.getElem?_mapIdx, Array.getElem?_eq_getElem hjc, Option.map_some]
          rw [if_pos (by rw [size_flatK, hs]; omega)]
          simp
        · rw [if_neg hj, List.getElem?_eq_none (by rw [flatS_len, hl]; omega)]
  unfold sortWorldK
  exact own_keep key fun k hk => heap_grow_old _ _ (key.lt k hk).2
theorem below_sorted {w : World} {B g m : Nat} {d' : Array FS} {os : Array Obj} (hg : B ≤ g) (hB : B ≤ w.heap.size) : Below B w (sortWorldK encS 4 w g 0 m d' os) := by
  have h1 : Below B w (putRowK encS 4 (Sort.ahead w m) g 0 d') := below_putRow (Below.refl B w) hg
  unfold sortWorldK
  exact ⟨h1.os, h1.tape, h1.output, Nat.le_trans h1.size (by rw [size_grow]; omega), fun k hk => (heap_grow_old _ _ (Nat.lt_of_lt_of_le hk (Nat.le_trans hB h1.size))).trans (h1.block k hk)⟩

set_option maxRecDepth 20000 in
set_option maxHeartbeats 1000000 in
theorem sortC (g cap : Nat) (l : List W4) (w : World) (B : Nat) (hB0 : 0 < B) (hB : B ≤ w.heap.size) (hl : l.length ≤ 256) (hf : ∀ S ∈ l, Fit4 S) (hA : OwnS w B (.slice (some ⟨g, 0, none⟩) l.length cap) l) (hT : Tab w) :
    Calls Tryz.prog 39 #[.slice (some ⟨g, 0, none⟩) l.length cap, .func (.func 40) #[] #[]] w fun e w' =>
      e = .returned (.tuple #[]) ∧ ∃ l', l'.Perm l ∧ l'.Pairwise (fun P Q => leastB P ≤ leastB Q) ∧ OwnS w' B (.slice (some ⟨g, 0, none⟩) l.length cap) l' ∧ Below B w w' := by
  have hsz := packS_size l hf
  have hval := packS_val l hf
  generalize packS l hf = d at hsz hval
  have hA' : OwnS w B (.slice (some ⟨g, 0, none⟩) d.size cap) (d.toList.map Subtype.val) := by rw [hsz, hval]; exact hA
  have hglt := hA.lt g rfl
  have hg0 : g ≠ 0 := by omega
  have eg : ∀ args w, (callFunc 40 args).run Tryz.prog w = .ok (.enter 40 args) w := enters_of Tryz.func40 (by kernel_rfl) rfl
  have hcon := AnyQ.slices_SortFunc Tryz.sortSet 4 Tryz.isAgg65 Tryz.sizeOf65 encS (fun _ => rfl) (fun x v hv => by simp [encS] at hv; rcases hv with rfl | rfl | rfl | rfl <;> rfl) cfS swoS 40 #[] g 0 cap d w eg (cmpS g d.size w hg0 hT) (holdsS hA') hglt.2 (by rw [hsz]; omega)
  change Calls Tryz.prog 39 _ _ _ at hcon
  rw [hsz] at hcon
  refine hcon.mono ?_
  rintro e w' ⟨rfl, d', n, os, hp, hs, rfl⟩
  have hsz' : d'.size = d.size := hp.1
  refine ⟨rfl, d'.toList.map Subtype.val, ?_, ?_, ?_, below_sorted hglt.1 hB⟩
  · have h3 := hp.2.2
    rw [← hsz, ← hsz'] at h3
    rw [Array.extract_size] at h3
    rw [hsz', Array.extract_size] at h3
    have := h3.map Subtype.val
    rwa [hval] at this
  · rw [List.pairwise_map, List.pairwise_iff_getElem]
    intro i j hi hj hij
    simp only [Array.length_toList] at hi hj
    have h := hs i j (Nat.zero_le _) hij (by omega)
    rw [getElem!_pos d' j hj, getElem!_pos d' i hi] at h
    have h := of_decide_eq_false h
    unfold cfS at h
    simp only [Array.getElem_toList]
    omega
  · have := own_sorted (m := n) (os := os) hA' hsz'
    rw [hsz] at this
    exact this

end Go.Proofs.YtonlcnmlklaicaaGreatDoor
namespace Go.Proofs.YtonlcnmlklaicaaGreatDoor
open Go.RowKit

theorem OwnS.shape1 {w : World} {B : Nat} {v : Value} {l : List W4} (h : OwnS w B v l) (h0 : 0 < l.length) : ∃ g cap, v = .slice (some ⟨g, 0, none⟩) l.length cap := by
  rcases h.2 with ⟨_, e⟩ | ⟨g, cap, cur, rfl, _⟩
  · omega
  · exact ⟨g, cap, rfl⟩
theorem GoodP.pos {l ps : List W4} (h : GoodP l ps) : 0 < ps.length := List.length_pos_of_mem (h.all 0 (by omega))
theorem all_fit : Fit4 (notB noneB) := not_fit _

set_option maxRecDepth 20000 in
set_option maxHeartbeats 4000000 in
theorem partsC (v : Value) (l : List W4) (w : World) (hl : l.length ≤ 1000) (hA : Sets w v l) (hT : Tab w) :
    Calls Tryz.prog 29 #[v] w fun e w' => ∃ v', e = .returned v' ∧ OwnS w' w.heap.size v' (partsB l) ∧ Below w.heap.size w w' := by
  have hB0 : 0 < w.heap.size := by
    have := World.block_lt_of_cell? w _ (hT 0 (by decide))
    exact this
  have GZ : Hid (∀ u, Calls Tryz.prog 37 #[.agg #[.int .u64 0, .int .u64 0, .int .u64 0, .int .u64 0]] u fun e w' => e = .returned (valB (notB noneB)) ∧ Below u.heap.size u w') := hid (fun u => notW noneB u noneB_fit)
  have GS : Hid (∀ v' ps S u, w.heap.size ≤ u.heap.size → 0 < ps.length → ps.length ≤ 256 → (∀ P ∈ ps, Fit4 P) → Fit4 S → OwnS u w.heap.size v' ps → Calls Tryz.prog 38 #[v', valB S] u fun e w' => ∃ v', e = .returned v' ∧ OwnS w' w.heap.size v' (splitL S ps) ∧ Below w.heap.size u w') := hid (fun v' ps S u h1 h2 h3 h4 h5 h6 => splitC v' ps S.a S.b S.c S.d u w.heap.size h1 h2 h3 h4 h5 h6)
  have GQ : Hid (∀ g cap ps u, w.heap.size ≤ u.heap.size → ps.length ≤ 256 → (∀ P ∈ ps, Fit4 P) → OwnS u w.heap.size (.slice (some ⟨g, 0, none⟩) ps.length cap) ps → Below w.heap.size w u → Calls Tryz.prog 39 #[.slice (some ⟨g, 0, none⟩) ps.length cap, .func (.func 40) #[] #[]] u fun e w' =>
      e = .returned (.tuple #[]) ∧ ∃ l', l'.Perm ps ∧ l'.Pairwise (fun P Q => leastB P ≤ leastB Q) ∧ OwnS w' w.heap.size (.slice (some ⟨g, 0, none⟩) ps.length cap) l' ∧ Below w.heap.size u w') := hid (fun g cap ps u h1 h2 h3 h4 h5 => sortC g cap ps u w.heap.size hB0 h1 h2 h3 h4 (hT.keep h5))
  obtain ⟨av, cv, rfl, hx1, _, hFl, hAt⟩ := id hA
  have hFl := hid hFl
  have hAt := hid hAt
  have hg0 : Hid (GoodP (l.take 0) [notB noneB]) := hid (by rw [List.take_zero]; exact goodP_nil)
  have hend : Hid (∀ k ps qs, l.length ≤ k → GoodP (l.take k) ps → qs.Perm ps → qs.Pairwise (fun P Q => leastB P ≤ leastB Q) → qs = partsB l) := hid (fun k ps qs hk hg hp hs => by rw [List.take_of_length_le hk] at hg; exact hg.sorted hp hs)
  have hstep : Hid (∀ k (hk : k < l.length) ps, GoodP (l.take k) ps → GoodP (l.take (k + 1)) (splitL l[k] ps)) := hid (fun k hk ps hg => by rw [List.take_succ_eq_append_getElem hk]; exact hg.split (hFl.out _ (List.getElem_mem hk)))
  have hZf := all_fit
  clear hA hT hx1
  generalize partsB l = R at hend ⊢
  generalize notB noneB = Z at GZ hg0 hZf
  obtain ⟨za, zb, zc, zd⟩ := Z
  go_enter Tryz.func29, Tryz.ntmps29
  go_wp2_with (go_at_call 37; refine (GZ.out _).mono ?_; rintro e w1 ⟨rfl, hb1⟩)
  have hs1 := hb1.size
  have hO1 : OwnS (w1.alloc (.cells #[.int .u64 (za : Int), .int .u64 (zb : Int), .int .u64 (zc : Int), .int .u64 (zd : Int)] 65)) w.heap.size (.slice (some ⟨w1.heap.size, 0, none⟩) 1 1) [⟨za, zb, zc, zd⟩] := by
    unfold OwnS
    exact World.ownsRow_lit w1 #[.int .u64 (za : Int), .int .u64 (zb : Int), .int .u64 (zc : Int), .int .u64 (zd : Int)] 1 hs1 (by unfold maxLen; omega) (by simp)
  have hO1 := hid hO1
  have hb1a := bl_step hb1 (al' w1 (.cells #[.int .u64 (za : Int), .int .u64 (zb : Int), .int .u64 (zc : Int), .int .u64 (zd : Int)] 65))
  go_loopw [3, 11] (fun o i wr => ∃ (k : Nat) (ps : List W4), k ≤ l.length ∧ i = .int .i64 k ∧ Hid (GoodP (l.take k) ps) ∧ Hid (OwnS wr w.heap.size o ps) ∧ Below w.heap.size w wr) (fun _ i _ => l.length - (intOf i).toNat)
  case atStart => exact ⟨0, [⟨za, zb, zc, zd⟩], Nat.zero_le _, rfl, hg0, hO1, hb1a⟩
  case round =>
    obtain ⟨k, ps, hk, rfl, hG, hO, hbl⟩ := hrel
    have hps0 := hG.out.pos
    have hps := hG.out.len
    have hpf := hid hG.out.fit
    by_cases hlt : k < l.length
    · have hltz : (k : Int) < (l.length : Int) := by omega
      obtain ⟨b', o', rfl, hb', hat'⟩ := hAt.out k hlt
      have hat' := hat'.keep hbl
      have hSf := hid (hFl.out _ (List.getElem_mem hlt))
      have hGn := hid (hstep.out k hlt ps hG.out)
      generalize l[k] = S at hat' hSf hGn
      have hal := al' wr (.cells #[.int .u64 (S.a : Int), .int .u64 (S.b : Int), .int .u64 (S.c : Int), .int .u64 (S.d : Int)] 65)
      have hbl1 := bl_step hbl hal
      have hO2 := hid (own_below hO.out hal)
      have GS0 := hid (GS.out u3 ps S _ hbl1.size hps0 hps hpf.out hSf.out hO2.out)
      obtain ⟨sa, sb, sc, sd⟩ := S
      obtain ⟨d0, d1, d2, d3⟩ := hat'
      simp only at d0 d1 d2 d3
      go_wp2_with (go_at_call 38; refine GS0.out.mono ?_; rintro e w2 ⟨v2, rfl, hO3, hb2⟩)
      exact ⟨⟨k + 1, _, by omega, by go_num, hGn, hid hO3, hbl1.trans hb2⟩, by simp [intOf]; omega⟩
    · have hltz : ¬ (k : Int) < (l.length : Int) := by omega
      obtain ⟨g, cap, rfl⟩ := OwnS.shape1 (l := ps) hO.out hps0
      have GQ0 := hid (GQ.out g cap ps wr hbl.size hps hpf.out hO.out hbl)
      go_wp2_with (go_at_call 39; refine GQ0.out.mono ?_; rintro e w2 ⟨rfl, qs, hp, hs, hO2, hb2⟩)
      go_ret
      have e := hend.out k ps qs (by omega) hG.out hp hs
      subst e
      exact ⟨_, rfl, hO2, hbl.trans hb2⟩

end Go.Proofs.YtonlcnmlklaicaaGreatDoor
