/- small.keyOf: a state's kind, and the kinds to which it leads, as a text. Maps from keys to numbers, as lists of what was put (the latest ahead). small.told, of either kind of keys: kinds by keys. small.kindsOf: which states are alike. -/
import Derived.Test.YtjelgphhlcecoaaGreatDoorJ29
import Derived.Test.YtjelgphhlcecoaaGreatDoorJ20
import Derived.Test.YtjelgphhlcecoaaGreatDoorJ15
import Derived.Maps.OwnSet
namespace Go.Proofs.YtjelgphhlcecoaaGreatDoor
open Go.RowKit

def kb (K : List Int) (x : Nat) : UInt8 := UInt8.ofNat (K.getD x 0).toNat
def keyP (N : List (List Int)) (K : List Int) (i : Nat) : Nat → Txt
  | 0 => [kb K (ixK N.length i)]
  | b + 1 => keyP N K i b ++ [kb K (ixK N.length (nxA N i b))]
theorem keyP_len (N : List (List Int)) (K : List Int) (i : Nat) : ∀ b, (keyP N K i b).length = b + 1
  | 0 => rfl
  | b + 1 => by rw [keyP, List.length_append, keyP_len N K i b]; rfl
/-- kinds that a byte tells -/
def KOk (K : List Int) : Prop := ∀ x, x < K.length → 0 ≤ K.getD x 0 ∧ K.getD x 0 < 256
theorem kb_nat {K : List Int} (h : KOk K) {x : Nat} (hx : x < K.length) : ((kb K x).toNat : Int) = K.getD x 0 := by
  have := h x hx
  unfold kb
  rw [UInt8.toNat_ofNat', Nat.mod_eq_of_lt (by omega)]
  omega
theorem kb_inj {K : List Int} (h : KOk K) {x y : Nat} (hx : x < K.length) (hy : y < K.length) (e : kb K x = kb K y) : K.getD x 0 = K.getD y 0 := by
  rw [← kb_nat h hx, ← kb_nat h hy, e]
theorem keyP_iff (N : List (List Int)) (K : List Int) (i j : Nat) : ∀ b, keyP N K i b = keyP N K j b ↔ kb K (ixK N.length i) = kb K (ixK N.length j) ∧ ∀ c, c < b → kb K (ixK N.length (nxA N i c)) = kb K (ixK N.length (nxA N j c))
  | 0 => by simp [keyP]
  | b + 1 => by
    have ih := keyP_iff N K i j b
    rw [keyP, keyP]
    constructor
    · intro h
      have h1 := List.append_inj_left' h rfl
      have h2 := List.append_inj_right' h rfl
      obtain ⟨h3, h4⟩ := ih.1 h1
      refine ⟨h3, fun c hc => ?_⟩
      rcases Nat.lt_or_ge c b with hl | hl
      · exact h4 c hl
      · obtain rfl : c = b := by omega
        injection h2
    · rintro ⟨h3, h4⟩
      rw [ih.2 ⟨h3, fun c hc => h4 c (by omega)⟩, h4 b (by omega)]
set_option maxRecDepth 20000 in
theorem make257 (w : World) : (Instr.makeSlice 60 (.int .i64 0) (.int .i64 257)).run Tryz.prog w = .ok (.slice (some ⟨w.heap.size, 0, none⟩) 0 257) (w.alloc (.cells (madeCells #[.int .u8 0] 257) 5)) := by
  obtain ⟨i, hi, z0, z1, z2⟩ := info_parts Tryz.info5
  have hr := run_make (P := Tryz.prog) w 60 5 i (.int .u8 0) Tryz.underlying60 hi z0 .i64 .i64 0 257 (by omega) (by omega) (by rw [z2]; omega) (by omega)
  rw [z1] at hr
  exact hr
set_option maxRecDepth 20000 in
theorem conv_u8 {x : Int} (h0 : 0 ≤ x) (h1 : x < 256) (w : World) : (convert 3 5 (.int .i64 x)).run Tryz.prog w = .ok (.int .u8 x) w := by
  have : IntKind.u8.wrap x = x := by
    obtain ⟨n, rfl⟩ : ∃ n : Nat, x = (n : Int) := ⟨x.toNat, by omega⟩
    exact wrap_u8 (by omega)
  have h2 : (convert 3 5 (.int .i64 x)).run Tryz.prog w = .ok (.int .u8 (IntKind.u8.wrap x)) w := by
    simp [go_sem, convert]
  rw [h2, this]
theorem ownB_snoc {w : World} {B g c : Nat} {l : Txt} {x : UInt8} (h : w.ownsRow B 5 1 (.slice (some ⟨g, 0, none⟩) (l.length + 1) c) (l.length + 1) (Lib.byteCells l ++ [.int .u8 (x.toNat : Int)])) : OwnB w B (.slice (some ⟨g, 0, none⟩) (l.length + 1) c) (l ++ [x]) := by
  unfold OwnB
  rw [List.length_append, Lib.byteCells, List.map_append]
  exact h
set_option maxRecDepth 20000 in
set_option maxHeartbeats 2000000 in
theorem keyOfC (nv av kv : Value) (N : List (List Int)) (A K : List Int) (i : Nat) (w : World) (hD : Dfa w nv av N A) (hr : RgtA N A) (hi : i ≤ N.length) (hK : Nums w kv K) (hl : K.length = N.length + 1) (hk : KOk K) :
    Calls Tryz.prog 37 #[.agg #[nv, av], .int .i64 (inI N.length i), kv] w fun e w' => e = .returned (.string (strT (keyP N K i 256))) ∧ Below w.heap.size w w' := by
  have hf := hr.few
  have hmk := make257
  obtain ⟨iB, hiB, zB0, zB1, zB2⟩ := info_parts Tryz.info5
  have GO : Hid (∀ u, Below w.heap.size w u → ∀ j, Calls Tryz.prog 22 #[kv, .int .i64 (inI N.length j)] u fun e w' => e = .returned (.int .i64 ((kb K (ixK N.length j)).toNat : Int)) ∧ w' = u) := hid (fun u hu j => by
    rw [kb_nat hk (by have := @ixK_le N.length j; omega)]
    exact kofC kv K N.length j u (hK.keep hu) hl (by omega))
  have GN := hid (fun u (hu : Below w.heap.size w u) b hb => nextOfC nv av N A i b u (hD.keep hu) hr hi hb)
  have hcv : ∀ (x : UInt8) u, (convert 3 5 (.int .i64 (x.toNat : Int))).run Tryz.prog u = .ok (.int .u8 (x.toNat : Int)) u := fun x u => conv_u8 (by omega) (by have := x.toNat_lt; omega) u
  obtain ⟨⟨na, nc, rfl⟩, ⟨aa, ac, rfl⟩⟩ := hD.shape
  obtain ⟨ka, kc, rfl⟩ := nums_shape' hK
  obtain ⟨W0, hW0⟩ : ∃ W0, w.alloc (.cells #[.slice na N.length nc, .slice aa A.length ac] 25) = W0 := ⟨_, rfl⟩
  have hb0 : Hid (Below w.heap.size w W0) := by rw [← hW0]; exact hid (al' w _)
  have hz0 : Hid (W0.heap[w.heap.size]? = some (.cells #[.slice na N.length nc, .slice aa A.length ac] 25)) := by rw [← hW0]; exact hid (heap_new w _)
  obtain ⟨W1, hW1⟩ : ∃ W1, W0.alloc (.cells (madeCells #[.int .u8 0] 257) 5) = W1 := ⟨_, rfl⟩
  have hO1 : Hid (W1.ownsRow W0.heap.size 5 1 (.slice (some ⟨W0.heap.size, 0, none⟩) 0 257) 0 []) := by rw [← hW1]; exact hid (World.ownsRow_made (base := W0.heap.size) (e := 5) (size := 1) W0 (madeCells #[.int .u8 0] 257) 257 (Nat.le_refl _) (by unfold maxLen; omega) (by simp [madeCells]))
  have hb1 : Hid (Below W0.heap.size W0 W1) := by rw [← hW1]; exact hid (al' W0 _)
  have hb01 : Hid (Below w.heap.size w W1) := hid (bl_step hb0.out hb1.out)
  have hL : Hid (N.length ≤ 240) := hid hf
  have G0 := hid (GO.out W1 hb01.out i)
  clear hK hl hD hr hf
  go_enter Tryz.func37, Tryz.ntmps37
  go_wp2_with (first
    | (at_builtin; refine wpList_append_lies _ (by rfl) _ _ _ (by rfl) W0.heap.size 5 iB (.int .u8 0) 1 1 Tryz.underlying60 hiB zB0 zB1 zB2 rfl (by decide) (.slice (some ⟨W0.heap.size, 0, none⟩) 0 257) 0 [] (by rfl) (World.ownsRow.alloc hO1.out _) ⟨W1.heap.size, 0, none⟩ 1 1 [.int .u8 ((kb K (ixK N.length i)).toNat : Int)] (by rfl) (by rfl) (World.news_of_block (heap_new W1 (.cells #[.int .u8 ((kb K (ixK N.length i)).toNat : Int)] 5))) (by simp [Value.oneCell']) (by omega) (by (unfold maxLen); omega) (by omega) hsz1.out (W1.alloc (.cells #[.int .u8 ((kb K (ixK N.length i)).toNat : Int)] 5)).heap.size rfl ?_; intro g2 c2 w2 hown2 hgrow2 hat2 hlt2; have hO2 : Hid (OwnB w2 W0.heap.size (.slice (some ⟨g2, 0, none⟩) (0 + 1) c2) (keyP N K i 0)) := hid (ownB_snoc (l := []) hown2); have hb2 : Hid (Below W0.heap.size W0 w2) := hid ((bl_step hb1.out (al' W1 _)).trans ((Kept.of_grown hgrow2).below (fun k e => (hO1.out.lt k e).1) hsz1.out)))
    | (go_at_call 22; refine G0.out.mono ?_; rintro e u ⟨rfl, hu⟩; subst u; have hsz1 : Hid (W0.heap.size ≤ (W1.alloc (.cells #[.int .u8 ((kb K (ixK N.length i)).toNat : Int)] 5)).heap.size) := hid (Nat.le_trans hb1.out.size (al' W1 _).size)))
  clear hmk hW1 hW0 G0 hO1 hb1 hb01
  go_loopw [7, 17] (fun v c wr => ∃ b : Nat, b ≤ 256 ∧ c = .int .i64 b ∧ Hid (OwnB wr W0.heap.size v (keyP N K i b)) ∧ Hid (Below W0.heap.size W0 wr)) (fun _ c _ => 256 - (intOf c).toNat)
  case atStart => exact ⟨0, by omega, rfl, hO2, hb2⟩
  case round =>
    obtain ⟨b, hb, rfl, hO, hbl⟩ := hrel
    obtain ⟨va, vc, rfl⟩ := own_shape hO.out
    have hkl := hid (keyP_len N K i b)
    have hbw : Hid (Below w.heap.size w wr) := hid (bl_step hb0.out hbl.out)
    by_cases hlt : b < 256
    · have hltz : (b : Int) < 256 := by omega
      obtain ⟨x0, x1, -⟩ := cells2m (hs_keep hz0.out hbl.out)
      have GNb := hid (GN.out wr hbw.out b hlt)
      obtain ⟨y, hy⟩ : ∃ y, Hid (y = kb K (ixK N.length (nxA N i b))) := ⟨_, hid rfl⟩
      have GOb : Hid (∀ u, Below w.heap.size w u → Calls Tryz.prog 22 #[.slice ka K.length kc, .int .i64 (inI N.length (nxA N i b))] u fun e w' => e = .returned (.int .i64 (y.toNat : Int)) ∧ w' = u) := hid (fun u hu => by rw [hy.out]; exact GO.out u hu (nxA N i b))
      generalize inI N.length (nxA N i b) = z at *
      have hS : Hid (keyP N K i (b + 1) = keyP N K i b ++ [y]) := hid (by rw [hy.out]; rfl)
      clear hy
      have hkl2 : (keyP N K i b).length ≤ 300 := by have := hkl.out; omega
      go_wp2_with (first
        | (at_builtin; refine wpList_append_lies _ (by rfl) _ _ _ (by rfl) W0.heap.size 5 iB (.int .u8 0) 1 1 Tryz.underlying60 hiB zB0 zB1 zB2 rfl (by decide) (.slice va (keyP N K i b).length vc) (keyP N K i b).length (Lib.byteCells (keyP N K i b)) (by rfl) O3.out ⟨w3.heap.size, 0, none⟩ 1 1 [.int .u8 (y.toNat : Int)] (by rfl) (by rfl) (World.news_of_block (heap_new w3 (.cells #[.int .u8 (y.toNat : Int)] 5))) (by simp [Value.oneCell']) (by omega) (by (unfold maxLen); omega) (by omega) hsz3.out (w3.alloc (.cells #[.int .u8 (y.toNat : Int)] 5)).heap.size rfl ?_; intro g4 c4 w4 hown4 hgrow4 hat4 hlt4; have hO4 : Hid (OwnB w4 W0.heap.size (.slice (some ⟨g4, 0, none⟩) ((keyP N K i b).length + 1) c4) (keyP N K i (b + 1))) := hid (by (rw [hS.out]; exact ownB_snoc hown4)); have hb4 : Hid (Below W0.heap.size W0 w4) := hid ((bl_step hbl.out hb3a.out).trans ((Kept.of_grown hgrow4).below (fun k e => (hO.out.lt k e).1) hsz3.out)))
        | (go_at_call 28; refine GNb.out.mono ?_; rintro e w3 ⟨rfl, hb3⟩; have G3 := hid (GOb.out w3 (bl_step hbw.out hb3)); have hb3a := hid (bl_step hb3 (al' w3 (.cells #[.int .u8 (y.toNat : Int)] 5))); have O3 := hid (own_below hO.out hb3a.out); have hsz3 := hid (Nat.le_trans hbl.out.size hb3a.out.size))
        | (go_at_call 22; refine G3.out.mono ?_; rintro e u ⟨rfl, hu⟩; subst u))
      go_roundw
      case rel => exact ⟨b + 1, by omega, by go_num, hO4, hb4⟩
      case measure => simp [intOf]; omega
    · have hltz : ¬ (b : Int) < 256 := by omega
      obtain rfl : b = 256 := by omega
      have hcB := convB _ hO.out
      go_wp2
      go_ret
      exact ⟨rfl, hbw.out⟩

end Go.Proofs.YtjelgphhlcecoaaGreatDoor
namespace Go.Proofs.YtjelgphhlcecoaaGreatDoor
open Go.RowKit Go.Maps

def dA {H κ : Type} (kl : κ → Lit) : List (κ × Int) → DataW H
  | [] => .map []
  | p :: l => (dA kl l).put (kl p.1) (.lit (.int .i64 p.2))
def lkA {κ : Type} [DecidableEq κ] : List (κ × Int) → κ → Option Int
  | [], _ => none
  | p :: l, x => if p.1 = x then some p.2 else lkA l x
/-- how keys are read -/
structure KeyA {κ : Type} (kl : κ → Lit) : Prop where
  inj : ∀ a b, kl a = kl b → a = b
  key : ∀ a, WideAt.IsKeyLit (kl a)
theorem dA_map {H κ : Type} (kl : κ → Lit) : ∀ l, IsMap (dA (H := H) kl l)
  | [] => isMap_empty
  | _ :: l => (dA_map kl l).put _ _
theorem dA_look {H κ : Type} [DecidableEq κ] {kl : κ → Lit} (hk : KeyA kl) (x : κ) : ∀ l, has (dA (H := H) kl l) (kl x) = (lkA l x).isSome ∧ ∀ z v, lkA l x = some v → (dA (H := H) kl l).atKey (kl x) z = .lit (.int .i64 v)
  | [] => ⟨rfl, fun z v h => by cases h⟩
  | p :: l => by
    have ih := dA_look (H := H) hk x l
    by_cases e : p.1 = x
    · subst e
      rw [dA]
      refine ⟨by rw [has_put_same (dA_map kl l) (hk.key _)]; simp [lkA], fun z v h => ?_⟩
      rw [atKey_put_same (dA_map kl l) (hk.key _)]
      simp [lkA] at h
      rw [h]
    · have hne : kl x ≠ kl p.1 := fun e' => e (hk.inj _ _ e').symm
      rw [dA, has_put_other hne]
      refine ⟨by rw [ih.1]; simp [lkA, e], fun z v h => ?_⟩
      rw [atKey_put_other hne]
      exact ih.2 z v (by simpa [lkA, e] using h)
theorem insert_len {H : Type} (x : Lit × DataW H) : ∀ l, (DataW.insert x l).length = l.length + 1
  | [] => rfl
  | y :: r => by
    unfold DataW.insert
    split
    · simp
    · simp [insert_len x r]
set_option maxRecDepth 20000 in
theorem size_put_new {H : Type} {D : DataW H} (hD : IsMap D) {k : Lit} (h : has D k = false) (d : DataW H) : size (D.put k d) = size D + 1 := by
  obtain ⟨es, rfl⟩ := hD
  show (DataW.insert (k, d) (es.filter fun p => !p.1.sameKey k)).length = es.length + 1
  rw [insert_len, List.filter_eq_self.2 (fun p hp => ?_)]
  have h1 : es.any (fun p => p.1.sameKey k) = false := h
  rw [List.any_eq_false] at h1
  simpa using h1 p hp
abbrev OwnM {κ : Type} (w : World) (kt : TypeId) (kl : κ → Lit) (m n : Nat) (l : List (κ × Int)) : Prop := w.ownsMap Tryz.prog kt (plainElem (H := Unit) Tryz.prog 3) m n (dA kl l)
set_option maxRecDepth 20000 in
theorem lookA {κ : Type} [DecidableEq κ] {kl : κ → Lit} (hk : KeyA kl) {u : World} {kt mt : TypeId} {m n : Nat} {l : List (κ × Int)} (K : Keyed Tryz.prog kt) (ht : Tryz.prog.underlying mt = some (.map kt 3)) (h : OwnM u kt kl m n l) {x : κ} {key : Value} (hkey : keyOf Tryz.prog kt key = some (kl x)) {v : Int} (hv : lkA l x = some v) :
    (Instr.lookup mt (.map (some m)) key true).run Tryz.prog u = .ok (.tuple #[.int .i64 v, .bool true]) u := by
  obtain ⟨c, ps, hrun, hR⟩ := h.look_ok K ht (zero3 u) (plainElem_int Tryz.underlying3 (WalkArith.wf_i64 (by omega))) hkey
  obtain ⟨h1, h2⟩ := dA_look (H := Unit) hk x l
  rw [hv] at h1
  rw [h2 _ v hv] at hR
  obtain ⟨c', rfl, hc, _⟩ := plainElem_int_inv Tryz.underlying3 hR
  simp only [Prod.mk.injEq] at hc
  have hc1 := hc.1
  injection hc1 with hc1
  injection hc1 with _ hc1
  rw [hrun, h1, hc1]
  rfl
set_option maxRecDepth 20000 in
theorem lookA_none {κ : Type} [DecidableEq κ] {kl : κ → Lit} (hk : KeyA kl) {u : World} {kt mt : TypeId} {m n : Nat} {l : List (κ × Int)} (K : Keyed Tryz.prog kt) (ht : Tryz.prog.underlying mt = some (.map kt 3)) (h : OwnM u kt kl m n l) {x : κ} {key : Value} (hkey : keyOf Tryz.prog kt key = some (kl x)) (hv : lkA l x = none) :
    ∃ c, (Instr.lookup mt (.map (some m)) key true).run Tryz.prog u = .ok (.tuple #[.int .i64 c, .bool false]) u := by
  obtain ⟨c, ps, hrun, hR⟩ := h.look_ok K ht (zero3 u) (plainElem_int Tryz.underlying3 (WalkArith.wf_i64 (by omega))) hkey
  obtain ⟨h1, h2⟩ := dA_look (H := Unit) hk x l
  rw [hv] at h1
  obtain ⟨c', rfl, hc, _⟩ := plainElem_int_inv Tryz.underlying3 hR
  exact ⟨c', by rw [hrun, h1]; rfl⟩
set_option maxRecDepth 20000 in
theorem putA {κ : Type} {kl : κ → Lit} {u : World} {kt mt : TypeId} {m n : Nat} {l : List (κ × Int)} (K : Keyed Tryz.prog kt) (ht : Tryz.prog.underlying mt = some (.map kt 3)) (h : OwnM u kt kl m n l) (hn : n ≤ 100000) {x : κ} {key : Value} (hkey : keyOf Tryz.prog kt key = some (kl x)) {v : Int} (hv : -100000 ≤ v ∧ v ≤ 100000) :
    ∃ u', (Instr.mapUpdate mt (.map (some m)) key (.int .i64 v)).run Tryz.prog u = .ok () u' ∧ OwnM u' kt kl m (n + 1) ((x, v) :: l) ∧ u.grownBy u' (some m) := by
  have hval : plainElem (H := Unit) Tryz.prog 3 (.int .i64 v) = some (.lit (.int .i64 v), []) := plainElem_int Tryz.underlying3 (WalkArith.wf_i64 (by omega))
  exact World.ownsMap.update h K ht (by unfold maxLen; omega) hkey hval
/-- the keys as they are met, with their numbers -/
def tolA {κ : Type} [DecidableEq κ] (f : Nat → κ) : Nat → List (κ × Int)
  | 0 => []
  | k + 1 => if f k ∈ distK f k then tolA f k else (f k, ((distK f k).length : Int)) :: tolA f k
theorem tolA_look {κ : Type} [DecidableEq κ] (f : Nat → κ) (x : κ) : ∀ k, lkA (tolA f k) x = if x ∈ distK f k then some ((distK f k).idxOf x : Int) else none
  | 0 => rfl
  | k + 1 => by
    have ih := tolA_look f x k
    by_cases h : f k ∈ distK f k
    · rw [tolA, if_pos h, distK_old h]
      exact ih
    · rw [tolA, if_neg h, distK_new h, lkA]
      by_cases e : f k = x
      · subst e
        rw [if_pos rfl, if_pos (by simp), List.idxOf_append, if_neg h]
        simp
      · rw [if_neg e, ih]
        by_cases hx : x ∈ distK f k
        · rw [if_pos hx, if_pos (List.mem_append_left _ hx), List.idxOf_append, if_pos hx]
        · rw [if_neg hx, if_neg (by
            rw [List.mem_append, List.mem_singleton]
            rintro (h1 | h1)
            · exact hx h1
            · exact e h1.symm)]
theorem tolA_size {H κ : Type} [DecidableEq κ] {kl : κ → Lit} (hk : KeyA kl) (f : Nat → κ) : ∀ k, size (dA (H := H) kl (tolA f k)) = (distK f k).length
  | 0 => rfl
  | k + 1 => by
    have ih := tolA_size (H := H) hk f k
    by_cases h : f k ∈ distK f k
    · rw [tolA, if_pos h, distK_old h]
      exact ih
    · rw [tolA, if_neg h, distK_new h, dA, size_put_new (dA_map kl _) (by rw [(dA_look (H := H) hk (f k) _).1, tolA_look, if_neg h]; rfl), ih]
      simp
def ixD {κ : Type} [DecidableEq κ] (f : Nat → κ) (m k : Nat) : Int := ((distK f m).idxOf (f k) : Int)
theorem kndK_next {κ : Type} [DecidableEq κ] (f : Nat → κ) (k : Nat) : kndK f (k + 1) = kndK f k ++ [ixD f (k + 1) k] := kndK_succ f k
theorem ixD_old {κ : Type} [DecidableEq κ] {f : Nat → κ} {k : Nat} (h : f k ∈ distK f k) : ixD f (k + 1) k = ixD f k k := by unfold ixD; rw [idx_old h]
theorem ixD_new {κ : Type} [DecidableEq κ] {f : Nat → κ} {k : Nat} (h : ¬ f k ∈ distK f k) : ixD f (k + 1) k = ((distK f k).length : Int) := by unfold ixD; rw [idx_new h]
theorem tolA_in {κ : Type} [DecidableEq κ] {f : Nat → κ} {k : Nat} (h : f k ∈ distK f k) : lkA (tolA f k) (f k) = some (ixD f k k) := by rw [tolA_look, if_pos h]; rfl
theorem tolA_out {κ : Type} [DecidableEq κ] {f : Nat → κ} {k : Nat} (h : ¬ f k ∈ distK f k) : lkA (tolA f k) (f k) = none := by rw [tolA_look, if_neg h]
theorem tolA_old {κ : Type} [DecidableEq κ] {f : Nat → κ} {k : Nat} (h : f k ∈ distK f k) : tolA f (k + 1) = tolA f k := by rw [tolA, if_pos h]
theorem tolA_new {κ : Type} [DecidableEq κ] {f : Nat → κ} {k : Nat} (h : ¬ f k ∈ distK f k) : tolA f (k + 1) = (f k, ((distK f k).length : Int)) :: tolA f k := by rw [tolA, if_neg h]
theorem keyA_str : KeyA (fun T : Txt => Lit.string T) := ⟨fun a b e => by injection e, fun _ => trivial⟩
theorem keyA_int : KeyA (fun x : Int => Lit.int .i64 x) := ⟨fun a b e => by injection e, fun _ => trivial⟩
set_option maxRecDepth 20000 in
theorem law_int : Keyed Tryz.prog 3 := int_keyed Tryz.underlying3
set_option maxRecDepth 20000 in
theorem key_int {x : Int} (h : -9223372036854775808 ≤ x ∧ x ≤ 9223372036854775807) : keyOf Tryz.prog 3 (.int .i64 x) = some (.int .i64 x) := keyOf_int_mk Tryz.underlying3 (WalkArith.wf_i64 h)

end Go.Proofs.YtjelgphhlcecoaaGreatDoor
namespace Go.Proofs.YtjelgphhlcecoaaGreatDoor
open Go.RowKit Go.Maps

set_option maxRecDepth 20000 in
theorem toldI_make (w : World) : (Instr.makeMap 48 none).run Tryz.prog w = .ok (.map (some w.heap.size)) (w.alloc (.map #[] 0)) := rfl
set_option maxRecDepth 20000 in
set_option maxHeartbeats 4000000 in
theorem toldIC (nv av : Value) (N : List (List Int)) (A : List Int) (f : Nat → Int) (p1 : Value) (w : World) (hD : Dfa w nv av N A) (hn : N.length ≤ 240) (hf0 : ∀ k, k ≤ N.length → -9223372036854775808 ≤ f k ∧ f k ≤ 9223372036854775807)
    (hF0 : ∀ k, k ≤ N.length → ∀ u, Below w.heap.size w u → Calls Tryz.prog 34 #[.int .i64 ((k : Int) - 1), p1] u fun e w' => e = .returned (.int .i64 (f k)) ∧ Below u.heap.size u w') :
    Calls Tryz.prog 33 #[.agg #[nv, av], .func (.func 34) #[] #[p1]] w fun e w' => ∃ v, e = .returned (.tuple #[v, .int .i64 ((distK f (N.length + 1)).length : Int)]) ∧ Own w' w.heap.size v (kndK f (N.length + 1)) ∧ Below w.heap.size w w' := by
  have hF := hid hF0
  have hf := hid hf0
  obtain ⟨⟨na, nc, rfl⟩, ⟨aa, ac, rfl⟩⟩ := hD.shape
  obtain ⟨i0, hi0, z00, z01, z02⟩ := info_parts Tryz.info3
  clear hD hF0 hf0
  obtain ⟨W0, hW0⟩ : ∃ W0, w.alloc (.cells #[.slice na N.length nc, .slice aa A.length ac] 25) = W0 := ⟨_, rfl⟩
  have hb0 : Hid (Below w.heap.size w W0) := by rw [← hW0]; exact hid (al' w _)
  have hz0 : Hid (W0.heap[w.heap.size]? = some (.cells #[.slice na N.length nc, .slice aa A.length ac] 25)) := by rw [← hW0]; exact hid (heap_new w _)
  obtain ⟨W1, hW1⟩ : ∃ W1, W0.alloc (.map #[] 0) = W1 := ⟨_, rfl⟩
  have hM1 : Hid (OwnM W1 3 (fun x : Int => Lit.int .i64 x) W0.heap.size 0 (tolA f 0)) := by rw [← hW1]; exact hid (World.ownsMap_made W0 Tryz.prog 3 (plainElem (H := Unit) Tryz.prog 3))
  have hb1 : Hid (Below W0.heap.size W0 W1) := by rw [← hW1]; exact hid (al' W0 _)
  have hs1 : Hid (W1.heap.size = W0.heap.size + 1) := by rw [← hW1]; exact hid (by simp)
  have hz1 : Hid (W1.heap[w.heap.size]? = some (.cells #[.slice na N.length nc, .slice aa A.length ac] 25)) := hid (hs_keep hz0.out hb1.out)
  have hw0 : Hid (w.heap.size < W0.heap.size) := hid (blk_lt hz0.out)
  have hmm := toldI_make
  go_enter Tryz.func33, Tryz.ntmps33
  go_wp2
  clear hmm hW0 hW1
  go_loopw [7, 8] (fun v i wr => ∃ k : Nat, k ≤ N.length + 1 ∧ i = .int .i64 ((k : Int) - 1) ∧ Hid (Own wr W1.heap.size v (kndK f k)) ∧ Hid (OwnM wr 3 (fun x : Int => Lit.int .i64 x) W0.heap.size (distK f k).length (tolA f k)) ∧ Hid (Below W0.heap.size W0 wr) ∧ Hid (W1.heap.size ≤ wr.heap.size)) (fun _ i _ => N.length + 1 - (intOf i + 1).toNat)
  case atStart => exact ⟨0, by omega, by first | rfl | go_num, hid (World.ownsRow_nil _ _ _ _), hM1, hb1, hid (Nat.le_refl _)⟩
  case round =>
    obtain ⟨k, hk, rfl, hO, hM, hbl, hsz⟩ := hrel
    obtain ⟨va, vc, rfl⟩ := own_shape hO.out
    have hkl : Hid ((kndK f k).length = k) := hid (kndK_len f k)
    have hkl2 : (kndK f k).length ≤ 300 := by have := hkl.out; omega
    have hz := hid (hs_keep hz0.out hbl.out)
    obtain ⟨c0, c1, -⟩ := cells2m hz.out
    have hbw : Hid (Below w.heap.size w wr) := hid (bl_step hb0.out hbl.out)
    have hml : Hid (W0.heap.size < wr.heap.size) := hid (by have := hsz.out; have := hs1.out; omega)
    by_cases hlt : k < N.length + 1
    · have hltz : (k : Int) - 1 < (N.length : Int) := by omega
      have GF := hid (hF.out k (by omega) wr hbw.out)
      have hkey : Hid (keyOf Tryz.prog 3 (.int .i64 (f k)) = some ((fun x : Int => Lit.int .i64 x) (f k))) := hid (key_int (hf.out k (by omega)))
      have hdl := distK_len f k
      have hsn : Hid (∀ (w4 : World) (g4 c4 : Nat) (x : Int), ixD f (k + 1) k = x → w4.ownsRow W1.heap.size 3 1 (.slice (some ⟨g4, 0, none⟩) ((kndK f k).length + 1) c4) ((kndK f k).length + 1) (numCells (kndK f k) ++ [.int .i64 x]) → Own w4 W1.heap.size (.slice (some ⟨g4, 0, none⟩) ((kndK f k).length + 1) c4) (kndK f (k + 1))) := hid (fun w4 g4 c4 x e h => by
        have e1 : (kndK f k ++ [x]).length = (kndK f k).length + 1 := List.length_append
        unfold Own
        rw [kndK_next, e, e1, numCells_snoc]
        exact h)
      have hmeas : Hid (k ≤ N.length) := hid (by omega)
      by_cases hin : f k ∈ distK f k
      · obtain ⟨x, hx⟩ : ∃ x : Int, Hid (ixD f k k = x) := ⟨_, hid rfl⟩
        have hxi : Hid (ixD f (k + 1) k = x) := hid (by rw [← hx.out, ixD_old hin])
        have hlkA : Hid (lkA (tolA f k) (f k) = some x) := hid (by rw [tolA_in hin, hx.out])
        have hdS : Hid (distK f (k + 1) = distK f k ∧ tolA f (k + 1) = tolA f k) := hid ⟨distK_old hin, tolA_old hin⟩
        clear hin
        obtain ⟨X, hX⟩ : ∃ X, Hid (f k = X) := ⟨_, hid rfl⟩
        rw [hX.out] at GF hkey
        go_wp2_with (first
          | (go_at_call 34; refine GF.out.mono ?_; rintro e w2 ⟨rfl, hb2⟩; have M2 := hid (own_map_kept hM.out (hb2.block _ hml.out)); have hlk := lookA keyA_int law_int Tryz.underlying48 M2.out hkey.out (by rw [← hX.out]; exact hlkA.out); have hal2 := hid (al' w2 (.cells #[.int .i64 x] 3)); have hb2a := hid (bl_step hb2 hal2.out); have O2 := hid (own_below hO.out hb2a.out); have hsz2 := hid (Nat.le_trans hsz.out hb2a.out.size))
          | (at_builtin; refine wpList_append_lies _ (by rfl) _ _ _ (by rfl) W1.heap.size 3 i0 (.int .i64 0) 1 8 Tryz.underlying45 hi0 z00 z01 z02 rfl (by decide) (.slice va (kndK f k).length vc) (kndK f k).length (numCells (kndK f k)) (by rfl) O2.out ⟨w2.heap.size, 0, none⟩ 1 1 [.int .i64 x] (by rfl) (by rfl) (World.news_of_block (heap_new w2 (.cells #[.int .i64 x] 3))) (by simp [Value.oneCell']) (by omega) (by (unfold maxLen); omega) (by omega) hsz2.out (w2.alloc (.cells #[.int .i64 x] 3)).heap.size rfl ?_; intro g3 c3 w3 hown3 hgrow3 hat3 hlt3; have O3 := hid (hsn.out _ _ _ _ hxi.out hown3); have kp3 := hid (Kept.of_grown hgrow3)))
        go_roundw
        case rel => exact ⟨k + 1, by omega, by go_num, O3, hid (by
          rw [hdS.out.1, hdS.out.2]
          exact own_map_kept M2.out ((kp3.out.block _ (Nat.lt_of_lt_of_le hml.out hb2a.out.size) (fun e => by have := (hO.out.lt _ e).1; have := hs1.out; omega)).trans (hal2.out.block _ (Nat.lt_of_lt_of_le hml.out hb2.size)))), hid ((bl_step hbl.out hb2a.out).trans (kp3.out.below (fun j e => by have := (hO.out.lt _ e).1; have := hs1.out; omega) (bl_step hbl.out hb2a.out).size)), hid (Nat.le_trans hsz2.out kp3.out.size)⟩
        case measure => simp [intOf]; have := hmeas.out; omega
      · obtain ⟨m, hm⟩ : ∃ m, Hid ((distK f k).length = m) := ⟨_, hid rfl⟩
        have hxi : Hid (ixD f (k + 1) k = (m : Int)) := hid (by rw [ixD_new hin, hm.out])
        have hlkA : Hid (lkA (tolA f k) (f k) = none) := hid (tolA_out hin)
        have hdS : Hid ((distK f (k + 1)).length = m + 1 ∧ tolA f (k + 1) = (f k, (m : Int)) :: tolA f k) := hid ⟨by rw [distK_new hin, List.length_append, hm.out]; rfl, by rw [tolA_new hin, hm.out]⟩
        have hmle : m ≤ 300 := by have := hm.out; omega
        clear hin hdl
        obtain ⟨X, hX⟩ : ∃ X, Hid (f k = X) := ⟨_, hid rfl⟩
        rw [hX.out] at GF hkey
        have hfacts : Hid (∀ u, Below wr.heap.size wr u → ∃ c u', (Instr.lookup 48 (.map (some W0.heap.size)) (.int .i64 X) true).run Tryz.prog u = .ok (.tuple #[.int .i64 c, .bool false]) u ∧ (∀ ty, (Builtin.len_ #[48] ty #[.map (some W0.heap.size)]).run Tryz.prog u = .ok (.int .i64 (m : Int)) u) ∧ (Instr.mapUpdate 48 (.map (some W0.heap.size)) (.int .i64 X) (.int .i64 (m : Int))).run Tryz.prog u = .ok () u' ∧ OwnM u' 3 (fun x : Int => Lit.int .i64 x) W0.heap.size (m + 1) ((X, (m : Int)) :: tolA f k) ∧ u.grownBy u' (some W0.heap.size)) := hid (fun u hu => by
          have M2 := own_map_kept hM.out (hu.block _ hml.out)
          obtain ⟨c, h1⟩ := lookA_none keyA_int law_int Tryz.underlying48 M2 hkey.out (by rw [← hX.out]; exact hlkA.out)
          have M3 := M2
          rw [hm.out] at M3
          obtain ⟨u', h3, h4, h5⟩ := putA law_int Tryz.underlying48 M3 (by omega) hkey.out (v := (m : Int)) (by omega)
          refine ⟨c, u', h1, fun ty => ?_, h3, h4, h5⟩
          have := M2.len Tryz.underlying48 ty
          rw [tolA_size keyA_int f, hm.out] at this
          exact this)
        have hown : Hid (∀ u u', Below wr.heap.size wr u → u.grownBy u' (some W0.heap.size) → Own u' W1.heap.size (.slice va (kndK f k).length vc) (kndK f k) ∧ Below W0.heap.size W0 u' ∧ W1.heap.size ≤ u'.heap.size ∧ W0.heap.size < u'.heap.size) := hid (fun u u' hu hg => by
          have kp := Kept.of_grown hg
          have h0 := bl_step hbl.out hu
          refine ⟨own_kept (own_below hO.out hu) kp (fun j e e' => ?_), h0.trans (kp.below (fun j e => ?_) h0.size), Nat.le_trans (Nat.le_trans hsz.out hu.size) kp.size, Nat.lt_of_lt_of_le hml.out (Nat.le_trans hu.size kp.size)⟩
          · have h1 := (hO.out.lt _ e).1
            have h2 := hs1.out
            injection e' with e'
            omega
          · injection e with e
            omega)
        go_wp2_with (first
          | (go_at_call 34; refine GF.out.mono ?_; rintro e w2 ⟨rfl, hb2⟩; obtain ⟨c, u2, hlk, hln, hup, M2', hgr2⟩ := hfacts.out w2 hb2; obtain ⟨O2', hbl2, hsz2', hml2⟩ := hown.out w2 u2 hb2 hgr2; have M2 := hid M2'; have hbl2 := hid hbl2; have hml2 := hid hml2; have hal2 := hid (al' u2 (.cells #[.int .i64 (m : Int)] 3)); have O2 := hid (own_below O2' hal2.out); have O2'' := hid O2'; have hsz2 := hid (Nat.le_trans hsz2' hal2.out.size); clear O2' M2' hgr2 hsz2')
          | (at_builtin; refine wpList_append_lies _ (by rfl) _ _ _ (by rfl) W1.heap.size 3 i0 (.int .i64 0) 1 8 Tryz.underlying45 hi0 z00 z01 z02 rfl (by decide) (.slice va (kndK f k).length vc) (kndK f k).length (numCells (kndK f k)) (by rfl) O2.out ⟨u2.heap.size, 0, none⟩ 1 1 [.int .i64 (m : Int)] (by rfl) (by rfl) (World.news_of_block (heap_new u2 (.cells #[.int .i64 (m : Int)] 3))) (by simp [Value.oneCell']) (by omega) (by (unfold maxLen); omega) (by omega) hsz2.out (u2.alloc (.cells #[.int .i64 (m : Int)] 3)).heap.size rfl ?_; intro g3 c3 w3 hown3 hgrow3 hat3 hlt3; have O3 := hid (hsn.out _ _ _ _ hxi.out hown3); have kp3 := hid (Kept.of_grown hgrow3)))
        go_roundw
        case rel => exact ⟨k + 1, by omega, by go_num, O3, hid (by
          rw [hdS.out.1, hdS.out.2, hX.out]
          exact own_map_kept M2.out ((kp3.out.block _ (Nat.lt_of_lt_of_le hml2.out hal2.out.size) (fun e => by have := (O2''.out.lt _ e).1; have := hs1.out; omega)).trans (hal2.out.block _ hml2.out))), hid ((bl_step hbl2.out hal2.out).trans (kp3.out.below (fun j e => by have := (O2''.out.lt _ e).1; have := hs1.out; omega) (bl_step hbl2.out hal2.out).size)), hid (Nat.le_trans hsz2.out kp3.out.size)⟩
        case measure => simp [intOf]; have := hmeas.out; omega
    · have hltz : ¬ (k : Int) - 1 < (N.length : Int) := by omega
      obtain rfl : k = N.length + 1 := by omega
      have hlenR : ∀ ty, (Builtin.len_ #[48] ty #[.map (some W0.heap.size)]).run Tryz.prog wr = .ok (.int .i64 ((distK f (N.length + 1)).length : Int)) wr := fun ty => by
        have := hM.out.len Tryz.underlying48 ty
        rw [tolA_size keyA_int f] at this
        exact this
      go_wp2
      go_ret2
      exact ⟨_, rfl, own_base hO.out (Nat.le_trans (Nat.le_of_lt hw0.out) (by have := hs1.out; omega)), hbw.out⟩
set_option maxRecDepth 20000 in
theorem toldS_make (w : World) : (Instr.makeMap 79 none).run Tryz.prog w = .ok (.map (some w.heap.size)) (w.alloc (.map #[] 0)) := rfl
set_option maxRecDepth 20000 in
set_option maxHeartbeats 4000000 in
theorem toldSC (nv av : Value) (N : List (List Int)) (A : List Int) (f : Nat → Txt) (p1 p2 : Value) (w : World) (hD : Dfa w nv av N A) (hn : N.length ≤ 240) (hf0 : ∀ k, k ≤ N.length → (f k).length ≤ 2000)
    (hF0 : ∀ k, k ≤ N.length → ∀ u, Below w.heap.size w u → Calls Tryz.prog 36 #[.int .i64 ((k : Int) - 1), p1, p2] u fun e w' => e = .returned (.string (strT (f k))) ∧ Below u.heap.size u w') :
    Calls Tryz.prog 35 #[.agg #[nv, av], .func (.func 36) #[] #[p1, p2]] w fun e w' => ∃ v, e = .returned (.tuple #[v, .int .i64 ((distK f (N.length + 1)).length : Int)]) ∧ Own w' w.heap.size v (kndK f (N.length + 1)) ∧ Below w.heap.size w w' := by
  have hF := hid hF0
  have hf := hid hf0
  obtain ⟨⟨na, nc, rfl⟩, ⟨aa, ac, rfl⟩⟩ := hD.shape
  obtain ⟨i0, hi0, z00, z01, z02⟩ := info_parts Tryz.info3
  clear hD hF0 hf0
  obtain ⟨W0, hW0⟩ : ∃ W0, w.alloc (.cells #[.slice na N.length nc, .slice aa A.length ac] 25) = W0 := ⟨_, rfl⟩
  have hb0 : Hid (Below w.heap.size w W0) := by rw [← hW0]; exact hid (al' w _)
  have hz0 : Hid (W0.heap[w.heap.size]? = some (.cells #[.slice na N.length nc, .slice aa A.length ac] 25)) := by rw [← hW0]; exact hid (heap_new w _)
  obtain ⟨W1, hW1⟩ : ∃ W1, W0.alloc (.map #[] 0) = W1 := ⟨_, rfl⟩
  have hM1 : Hid (OwnM W1 9 (fun T : Txt => Lit.string T) W0.heap.size 0 (tolA f 0)) := by rw [← hW1]; exact hid (World.ownsMap_made W0 Tryz.prog 9 (plainElem (H := Unit) Tryz.prog 3))
  have hb1 : Hid (Below W0.heap.size W0 W1) := by rw [← hW1]; exact hid (al' W0 _)
  have hs1 : Hid (W1.heap.size = W0.heap.size + 1) := by rw [← hW1]; exact hid (by simp)
  have hz1 : Hid (W1.heap[w.heap.size]? = some (.cells #[.slice na N.length nc, .slice aa A.length ac] 25)) := hid (hs_keep hz0.out hb1.out)
  have hw0 : Hid (w.heap.size < W0.heap.size) := hid (blk_lt hz0.out)
  have hmm := toldS_make
  go_enter Tryz.func35, Tryz.ntmps35
  go_wp2
  clear hmm hW0 hW1
  go_loopw [7, 8] (fun v i wr => ∃ k : Nat, k ≤ N.length + 1 ∧ i = .int .i64 ((k : Int) - 1) ∧ Hid (Own wr W1.heap.size v (kndK f k)) ∧ Hid (OwnM wr 9 (fun T : Txt => Lit.string T) W0.heap.size (distK f k).length (tolA f k)) ∧ Hid (Below W0.heap.size W0 wr) ∧ Hid (W1.heap.size ≤ wr.heap.size)) (fun _ i _ => N.length + 1 - (intOf i + 1).toNat)
  case atStart => exact ⟨0, by omega, by first | rfl | go_num, hid (World.ownsRow_nil _ _ _ _), hM1, hb1, hid (Nat.le_refl _)⟩
  case round =>
    obtain ⟨k, hk, rfl, hO, hM, hbl, hsz⟩ := hrel
    obtain ⟨va, vc, rfl⟩ := own_shape hO.out
    have hkl : Hid ((kndK f k).length = k) := hid (kndK_len f k)
    have hkl2 : (kndK f k).length ≤ 300 := by have := hkl.out; omega
    have hz := hid (hs_keep hz0.out hbl.out)
    obtain ⟨c0, c1, -⟩ := cells2m hz.out
    have hbw : Hid (Below w.heap.size w wr) := hid (bl_step hb0.out hbl.out)
    have hml : Hid (W0.heap.size < wr.heap.size) := hid (by have := hsz.out; have := hs1.out; omega)
    by_cases hlt : k < N.length + 1
    · have hltz : (k : Int) - 1 < (N.length : Int) := by omega
      have GF := hid (hF.out k (by omega) wr hbw.out)
      have hkey : Hid (keyOf Tryz.prog 9 (.string (strT (f k))) = some ((fun T : Txt => Lit.string T) (f k))) := hid (keyT (f k) (by have := hf.out k (by omega); omega))
      have hdl := distK_len f k
      have hsn : Hid (∀ (w4 : World) (g4 c4 : Nat) (x : Int), ixD f (k + 1) k = x → w4.ownsRow W1.heap.size 3 1 (.slice (some ⟨g4, 0, none⟩) ((kndK f k).length + 1) c4) ((kndK f k).length + 1) (numCells (kndK f k) ++ [.int .i64 x]) → Own w4 W1.heap.size (.slice (some ⟨g4, 0, none⟩) ((kndK f k).length + 1) c4) (kndK f (k + 1))) := hid (fun w4 g4 c4 x e h => by
        have e1 : (kndK f k ++ [x]).length = (kndK f k).length + 1 := List.length_append
        unfold Own
        rw [kndK_next, e, e1, numCells_snoc]
        exact h)
      have hmeas : Hid (k ≤ N.length) := hid (by omega)
      by_cases hin : f k ∈ distK f k
      · obtain ⟨x, hx⟩ : ∃ x : Int, Hid (ixD f k k = x) := ⟨_, hid rfl⟩
        have hxi : Hid (ixD f (k + 1) k = x) := hid (by rw [← hx.out, ixD_old hin])
        have hlkA : Hid (lkA (tolA f k) (f k) = some x) := hid (by rw [tolA_in hin, hx.out])
        have hdS : Hid (distK f (k + 1) = distK f k ∧ tolA f (k + 1) = tolA f k) := hid ⟨distK_old hin, tolA_old hin⟩
        clear hin
        obtain ⟨X, hX⟩ : ∃ X, Hid (f k = X) := ⟨_, hid rfl⟩
        rw [hX.out] at GF hkey
        go_wp2_with (first
          | (go_at_call 36; refine GF.out.mono ?_; rintro e w2 ⟨rfl, hb2⟩; have M2 := hid (own_map_kept hM.out (hb2.block _ hml.out)); have hlk := lookA keyA_str law9 Tryz.underlying79 M2.out hkey.out (by rw [← hX.out]; exact hlkA.out); have hal2 := hid (al' w2 (.cells #[.int .i64 x] 3)); have hb2a := hid (bl_step hb2 hal2.out); have O2 := hid (own_below hO.out hb2a.out); have hsz2 := hid (Nat.le_trans hsz.out hb2a.out.size))
          | (at_builtin; refine wpList_append_lies _ (by rfl) _ _ _ (by rfl) W1.heap.size 3 i0 (.int .i64 0) 1 8 Tryz.underlying45 hi0 z00 z01 z02 rfl (by decide) (.slice va (kndK f k).length vc) (kndK f k).length (numCells (kndK f k)) (by rfl) O2.out ⟨w2.heap.size, 0, none⟩ 1 1 [.int .i64 x] (by rfl) (by rfl) (World.news_of_block (heap_new w2 (.cells #[.int .i64 x] 3))) (by simp [Value.oneCell']) (by omega) (by (unfold maxLen); omega) (by omega) hsz2.out (w2.alloc (.cells #[.int .i64 x] 3)).heap.size rfl ?_; intro g3 c3 w3 hown3 hgrow3 hat3 hlt3; have O3 := hid (hsn.out _ _ _ _ hxi.out hown3); have kp3 := hid (Kept.of_grown hgrow3)))
        go_roundw
        case rel => exact ⟨k + 1, by omega, by go_num, O3, hid (by
          rw [hdS.out.1, hdS.out.2]
          exact own_map_kept M2.out ((kp3.out.block _ (Nat.lt_of_lt_of_le hml.out hb2a.out.size) (fun e => by have := (hO.out.lt _ e).1; have := hs1.out; omega)).trans (hal2.out.block _ (Nat.lt_of_lt_of_le hml.out hb2.size)))), hid ((bl_step hbl.out hb2a.out).trans (kp3.out.below (fun j e => by have := (hO.out.lt _ e).1; have := hs1.out; omega) (bl_step hbl.out hb2a.out).size)), hid (Nat.le_trans hsz2.out kp3.out.size)⟩
        case measure => simp [intOf]; have := hmeas.out; omega
      · obtain ⟨m, hm⟩ : ∃ m, Hid ((distK f k).length = m) := ⟨_, hid rfl⟩
        have hxi : Hid (ixD f (k + 1) k = (m : Int)) := hid (by rw [ixD_new hin, hm.out])
        have hlkA : Hid (lkA (tolA f k) (f k) = none) := hid (tolA_out hin)
        have hdS : Hid ((distK f (k + 1)).length = m + 1 ∧ tolA f (k + 1) = (f k, (m : Int)) :: tolA f k) := hid ⟨by rw [distK_new hin, List.length_append, hm.out]; rfl, by rw [tolA_new hin, hm.out]⟩
        have hmle : m ≤ 300 := by have := hm.out; omega
        clear hin hdl
        obtain ⟨X, hX⟩ : ∃ X, Hid (f k = X) := ⟨_, hid rfl⟩
        rw [hX.out] at GF hkey
        have hfacts : Hid (∀ u, Below wr.heap.size wr u → ∃ c u', (Instr.lookup 79 (.map (some W0.heap.size)) (.string (strT X)) true).run Tryz.prog u = .ok (.tuple #[.int .i64 c, .bool false]) u ∧ (∀ ty, (Builtin.len_ #[79] ty #[.map (some W0.heap.size)]).run Tryz.prog u = .ok (.int .i64 (m : Int)) u) ∧ (Instr.mapUpdate 79 (.map (some W0.heap.size)) (.string (strT X)) (.int .i64 (m : Int))).run Tryz.prog u = .ok () u' ∧ OwnM u' 9 (fun T : Txt => Lit.string T) W0.heap.size (m + 1) ((X, (m : Int)) :: tolA f k) ∧ u.grownBy u' (some W0.heap.size)) := hid (fun u hu => by
          have M2 := own_map_kept hM.out (hu.block _ hml.out)
          obtain ⟨c, h1⟩ := lookA_none keyA_str law9 Tryz.underlying79 M2 hkey.out (by rw [← hX.out]; exact hlkA.out)
          have M3 := M2
          rw [hm.out] at M3
          obtain ⟨u', h3, h4, h5⟩ := putA law9 Tryz.underlying79 M3 (by omega) hkey.out (v := (m : Int)) (by omega)
          refine ⟨c, u', h1, fun ty => ?_, h3, h4, h5⟩
          have := M2.len Tryz.underlying79 ty
          rw [tolA_size keyA_str f, hm.out] at this
          exact this)
        have hown : Hid (∀ u u', Below wr.heap.size wr u → u.grownBy u' (some W0.heap.size) → Own u' W1.heap.size (.slice va (kndK f k).length vc) (kndK f k) ∧ Below W0.heap.size W0 u' ∧ W1.heap.size ≤ u'.heap.size ∧ W0.heap.size < u'.heap.size) := hid (fun u u' hu hg => by
          have kp := Kept.of_grown hg
          have h0 := bl_step hbl.out hu
          refine ⟨own_kept (own_below hO.out hu) kp (fun j e e' => ?_), h0.trans (kp.below (fun j e => ?_) h0.size), Nat.le_trans (Nat.le_trans hsz.out hu.size) kp.size, Nat.lt_of_lt_of_le hml.out (Nat.le_trans hu.size kp.size)⟩
          · have h1 := (hO.out.lt _ e).1
            have h2 := hs1.out
            injection e' with e'
            omega
          · injection e with e
            omega)
        go_wp2_with (first
          | (go_at_call 36; refine GF.out.mono ?_; rintro e w2 ⟨rfl, hb2⟩; obtain ⟨c, u2, hlk, hln, hup, M2', hgr2⟩ := hfacts.out w2 hb2; obtain ⟨O2', hbl2, hsz2', hml2⟩ := hown.out w2 u2 hb2 hgr2; have M2 := hid M2'; have hbl2 := hid hbl2; have hml2 := hid hml2; have hal2 := hid (al' u2 (.cells #[.int .i64 (m : Int)] 3)); have O2 := hid (own_below O2' hal2.out); have O2'' := hid O2'; have hsz2 := hid (Nat.le_trans hsz2' hal2.out.size); clear O2' M2' hgr2 hsz2')
          | (at_builtin; refine wpList_append_lies _ (by rfl) _ _ _ (by rfl) W1.heap.size 3 i0 (.int .i64 0) 1 8 Tryz.underlying45 hi0 z00 z01 z02 rfl (by decide) (.slice va (kndK f k).length vc) (kndK f k).length (numCells (kndK f k)) (by rfl) O2.out ⟨u2.heap.size, 0, none⟩ 1 1 [.int .i64 (m : Int)] (by rfl) (by rfl) (World.news_of_block (heap_new u2 (.cells #[.int .i64 (m : Int)] 3))) (by simp [Value.oneCell']) (by omega) (by (unfold maxLen); omega) (by omega) hsz2.out (u2.alloc (.cells #[.int .i64 (m : Int)] 3)).heap.size rfl ?_; intro g3 c3 w3 hown3 hgrow3 hat3 hlt3; have O3 := hid (hsn.out _ _ _ _ hxi.out hown3); have kp3 := hid (Kept.of_grown hgrow3)))
        go_roundw
        case rel => exact ⟨k + 1, by omega, by go_num, O3, hid (by
          rw [hdS.out.1, hdS.out.2, hX.out]
          exact own_map_kept M2.out ((kp3.out.block _ (Nat.lt_of_lt_of_le hml2.out hal2.out.size) (fun e => by have := (O2''.out.lt _ e).1; have := hs1.out; omega)).trans (hal2.out.block _ hml2.out))), hid ((bl_step hbl2.out hal2.out).trans (kp3.out.below (fun j e => by have := (O2''.out.lt _ e).1; have := hs1.out; omega) (bl_step hbl2.out hal2.out).size)), hid (Nat.le_trans hsz2.out kp3.out.size)⟩
        case measure => simp [intOf]; have := hmeas.out; omega
    · have hltz : ¬ (k : Int) - 1 < (N.length : Int) := by omega
      obtain rfl : k = N.length + 1 := by omega
      have hlenR : ∀ ty, (Builtin.len_ #[79] ty #[.map (some W0.heap.size)]).run Tryz.prog wr = .ok (.int .i64 ((distK f (N.length + 1)).length : Int)) wr := fun ty => by
        have := hM.out.len Tryz.underlying79 ty
        rw [tolA_size keyA_str f] at this
        exact this
      go_wp2
      go_ret2
      exact ⟨_, rfl, own_base hO.out (Nat.le_trans (Nat.le_of_lt hw0.out) (by have := hs1.out; omega)), hbw.out⟩

end Go.Proofs.YtjelgphhlcecoaaGreatDoor
namespace Go.Proofs.YtjelgphhlcecoaaGreatDoor
open Go.RowKit Go.Maps

/-- the state at a place of a list of kinds -/
def stI (n k : Nat) : Nat := if k = 0 then n else k - 1
theorem stI_le {n k : Nat} (h : k ≤ n) : stI n k ≤ n := by unfold stI; split <;> omega
theorem inI_st {n k : Nat} (h : k ≤ n) : inI n (stI n k) = (k : Int) - 1 := by unfold inI stI; split <;> split <;> omega
theorem ix_st {n k : Nat} (h : k ≤ n) : ixK n (stI n k) = k := by unfold ixK stI; split <;> split <;> omega
theorem st_ix {n i : Nat} (h : i ≤ n) : stI n (ixK n i) = i := by unfold ixK stI; split <;> simp <;> omega
/-- kinds that tell what is told apart by texts of at most r bytes, and how many they are -/
structure KRel (N : List (List Int)) (A : List Int) (r : Nat) (K : List Int) (c : Nat) : Prop where
  len : K.length = N.length + 1
  ok : KOk K
  rel : ∀ i j, i ≤ N.length → j ≤ N.length → (K.getD (ixK N.length i) 0 = K.getD (ixK N.length j) 0 ↔ AlkK N A r i j)
  cnt : c = (distK (fun k => K.getD k 0) (N.length + 1)).length
theorem told_rel {κ : Type} [DecidableEq κ] {N : List (List Int)} {A : List Int} {r : Nat} {f : Nat → κ} (hn : N.length ≤ 240) (h : ∀ k l, k ≤ N.length → l ≤ N.length → (f k = f l ↔ AlkK N A r (stI N.length k) (stI N.length l))) : KRel N A r (kndK f (N.length + 1)) (distK f (N.length + 1)).length where
  len := kndK_len _ _
  ok := fun x hx => by
    rw [kndK_len] at hx
    have := kndK_lt f hx
    omega
  rel := fun i j hi hj => by
    have h1 := @ixK_le N.length i
    have h2 := @ixK_le N.length j
    rw [kndK_iff f (by omega) (by omega), h _ _ h1 h2, st_ix hi, st_ix hj]
  cnt := by
    have key : ∀ k l, k < N.length + 1 → l < N.length + 1 → ((kndK f (N.length + 1)).getD k 0 = (kndK f (N.length + 1)).getD l 0 ↔ f k = f l) := fun k l hk hl => kndK_iff f hk hl
    have h1 := (dist_more (f := f) (g := fun k => (kndK f (N.length + 1)).getD k 0) (m := N.length + 1) (fun k l hk hl e => (key k l hk hl).2 e) _ (Nat.le_refl _)).1
    have h2 := (dist_more (f := fun k => (kndK f (N.length + 1)).getD k 0) (g := f) (m := N.length + 1) (fun k l hk hl e => (key k l hk hl).1 e) _ (Nat.le_refl _)).1
    omega
theorem KRel.at {N : List (List Int)} {A : List Int} {r c : Nat} {K : List Int} (h : KRel N A r K c) {k l : Nat} (hk : k ≤ N.length) (hl : l ≤ N.length) : K.getD k 0 = K.getD l 0 ↔ AlkK N A r (stI N.length k) (stI N.length l) := by
  rw [← h.rel _ _ (stI_le hk) (stI_le hl), ix_st hk, ix_st hl]
theorem kinds0 {N : List (List Int)} {A : List Int} (hn : N.length ≤ 240) : KRel N A 0 (kndK (fun k => acA N A (stI N.length k)) (N.length + 1)) (distK (fun k => acA N A (stI N.length k)) (N.length + 1)).length :=
  told_rel hn fun _ _ _ _ => (alkK_zero N A _ _).symm
theorem kindsS {N : List (List Int)} {A : List Int} (hr : RgtA N A) {r c : Nat} {K : List Int} (h : KRel N A r K c) : KRel N A (r + 1) (kndK (fun k => keyP N K (stI N.length k) 256) (N.length + 1)) (distK (fun k => keyP N K (stI N.length k) 256) (N.length + 1)).length := by
  refine told_rel hr.few fun k l hk hl => ?_
  have hin : ∀ i, ixK N.length i < K.length := fun i => by have := @ixK_le N.length i; have := h.len; omega
  have key : ∀ i j, i ≤ N.length → j ≤ N.length → (kb K (ixK N.length i) = kb K (ixK N.length j) ↔ AlkK N A r i j) := fun i j hi hj => by
    rw [← h.rel i j hi hj]
    exact ⟨kb_inj h.ok (hin i) (hin j), fun e => by unfold kb; rw [e]⟩
  rw [keyP_iff, alkK_succ, key _ _ (stI_le hk) (stI_le hl)]
  constructor
  · rintro ⟨h1, h2⟩
    exact ⟨h1, fun b hb => (key _ _ (nxA_le hr.rgt _ hb) (nxA_le hr.rgt _ hb)).1 (h2 b hb)⟩
  · rintro ⟨h1, h2⟩
    exact ⟨h1, fun b hb => (key _ _ (nxA_le hr.rgt _ hb) (nxA_le hr.rgt _ hb)).2 (h2 b hb)⟩
theorem KRel.fine {N : List (List Int)} {A : List Int} {r c c' : Nat} {K K' : List Int} (h : KRel N A r K c) (h' : KRel N A (r + 1) K' c') : ∀ k l, k < N.length + 1 → l < N.length + 1 → K'.getD k 0 = K'.getD l 0 → K.getD k 0 = K.getD l 0 := fun k l hk hl e => by
  rw [h.at (by omega) (by omega)]
  exact ((alkK_succ N A r _ _).1 ((h'.at (by omega) (by omega)).1 e)).1
theorem KRel.grow {N : List (List Int)} {A : List Int} {r c c' : Nat} {K K' : List Int} (h : KRel N A r K c) (h' : KRel N A (r + 1) K' c') : c ≤ c' ∧ c' ≤ N.length + 1 := by
  have h1 := (dist_more (f := fun k => K'.getD k 0) (g := fun k => K.getD k 0) (h.fine h') _ (Nat.le_refl _)).1
  have h2 := distK_len (fun k => K'.getD k 0) (N.length + 1)
  rw [← h.cnt, ← h'.cnt] at h1
  rw [← h'.cnt] at h2
  exact ⟨h1, h2⟩
/-- kinds that tell alike states -/
structure KndA (N : List (List Int)) (A : List Int) (K : List Int) : Prop where
  len : K.length = N.length + 1
  ok : KOk K
  rel : ∀ i j, i ≤ N.length → j ≤ N.length → (K.getD (ixK N.length i) 0 = K.getD (ixK N.length j) 0 ↔ Alk N A i j)
theorem KRel.stop {N : List (List Int)} {A : List Int} (hr : RgtA N A) {r c : Nat} {K K' : List Int} (h : KRel N A r K c) (h' : KRel N A (r + 1) K' c) : KndA N A K := by
  have h1 := (dist_more (f := fun k => K'.getD k 0) (g := fun k => K.getD k 0) (h.fine h') _ (Nat.le_refl _)).2 (by rw [← h.cnt, ← h'.cnt])
  have hst : ∀ i j, i ≤ N.length → j ≤ N.length → AlkK N A r i j → AlkK N A (r + 1) i j := fun i j hi hj e => by
    have e1 := (h.rel i j hi hj).2 e
    have := @ixK_le N.length i
    have := @ixK_le N.length j
    exact (h'.rel i j hi hj).1 (h1 _ _ (by omega) (by omega) e1)
  refine ⟨h.len, h.ok, fun i j hi hj => ?_⟩
  rw [h.rel i j hi hj]
  exact ⟨alk_stable hr.rgt hst i j hi hj, fun e s _ => e s⟩
/-- what an automaton accepts, as the machine can hold it -/
def AccW (A : List Int) : Prop := ∀ j, A.getD j 0 ≤ 9223372036854775807
theorem acA_in {N : List (List Int)} {A : List Int} (hr : RgtA N A) (hA : AccW A) (i : Nat) : -1 ≤ acA N A i ∧ acA N A i ≤ 9223372036854775807 := by
  unfold acA
  split
  · omega
  · exact ⟨hr.acc i (by rw [← hr.len]; omega), hA i⟩
set_option maxRecDepth 20000 in
theorem key1C (nv av : Value) (N : List (List Int)) (A : List Int) (p k : Nat) (u : World) (hD : Dfa u nv av N A) (hr : RgtA N A) (hk : k ≤ N.length) (hp : u.heap[p]? = some (.cells #[nv, av] 25 (0, 0))) :
    Calls Tryz.prog 34 #[.int .i64 ((k : Int) - 1), .pointer (some ⟨p, 0, none⟩)] u fun e w' => e = .returned (.int .i64 (acA N A (stI N.length k))) ∧ Below u.heap.size u w' := by
  have G := hid (acceptOfC nv av N A (stI N.length k) u hD hr (stI_le hk))
  rw [inI_st hk] at G
  obtain ⟨⟨na, nc, rfl⟩, ⟨aa, ac, rfl⟩⟩ := hD.shape
  obtain ⟨c0, c1, -⟩ := cells2m hp
  clear hD hr
  go_enter Tryz.func34, Tryz.ntmps34
  go_wp2_with (go_at_call 27; refine G.out.mono ?_; rintro e w1 ⟨rfl, hb1⟩)
  go_ret
  exact ⟨rfl, hb1⟩
set_option maxRecDepth 20000 in
theorem key2C (nv av kv : Value) (N : List (List Int)) (A K : List Int) (p q k : Nat) (u : World) (hD : Dfa u nv av N A) (hr : RgtA N A) (hk : k ≤ N.length) (hp : u.heap[p]? = some (.cells #[nv, av] 25 (0, 0))) (hq : u.heap[q]? = some (.cells #[kv] 45 (0, 0))) (hK : Nums u kv K) (hl : K.length = N.length + 1) (hok : KOk K) :
    Calls Tryz.prog 36 #[.int .i64 ((k : Int) - 1), .pointer (some ⟨p, 0, none⟩), .pointer (some ⟨q, 0, none⟩)] u fun e w' => e = .returned (.string (strT (keyP N K (stI N.length k) 256))) ∧ Below u.heap.size u w' := by
  have G := hid (keyOfC nv av kv N A K (stI N.length k) u hD hr (stI_le hk) hK hl hok)
  rw [inI_st hk] at G
  obtain ⟨⟨na, nc, rfl⟩, ⟨aa, ac, rfl⟩⟩ := hD.shape
  obtain ⟨ka, kc, rfl⟩ := nums_shape' hK
  obtain ⟨c0, c1, -⟩ := cells2m hp
  have c2 := blk_cell (o := 0) hq rfl
  clear hD hr hl hK
  go_enter Tryz.func36, Tryz.ntmps36
  go_wp2_with (go_at_call 37; refine G.out.mono ?_; rintro e w1 ⟨rfl, hb1⟩)
  go_ret
  exact ⟨rfl, hb1⟩
theorem own_shape' {w : World} {B : Nat} {v : Value} {l : List Int} {m : Nat} (h : Own w B v l) (hl : l.length = m) : ∃ a c, v = .slice a m c := by
  obtain ⟨a, c, e⟩ := own_shape h
  exact ⟨a, c, by rw [e, hl]⟩
set_option maxRecDepth 20000 in
set_option maxHeartbeats 4000000 in
theorem kindsOfC (nv av : Value) (N : List (List Int)) (A : List Int) (w : World) (hD : Dfa w nv av N A) (hr : RgtA N A) (hA : AccW A) :
    Calls Tryz.prog 21 #[.agg #[nv, av]] w fun e w' => ∃ v K, e = .returned v ∧ Nums w' v K ∧ KndA N A K ∧ Below w.heap.size w w' := by
  have hf := hr.few
  obtain ⟨⟨na, nc, rfl⟩, ⟨aa, ac, rfl⟩⟩ := hD.shape
  obtain ⟨W0, hW0⟩ : ∃ W0, w.alloc (.cells #[.slice na N.length nc, .slice aa A.length ac] 25) = W0 := ⟨_, rfl⟩
  have hb0 : Hid (Below w.heap.size w W0) := by rw [← hW0]; exact hid (al' w _)
  have hz0 : Hid (W0.heap[w.heap.size]? = some (.cells #[.slice na N.length nc, .slice aa A.length ac] 25 (0, 0))) := by rw [← hW0]; exact hid (heap_new w _)
  obtain ⟨c0, c1, -⟩ := cells2m hz0.out
  have G1 := hid (toldIC (.slice na N.length nc) (.slice aa A.length ac) N A (fun k => acA N A (stI N.length k)) (.pointer (some ⟨w.heap.size, 0, none⟩)) W0 (hD.keep hb0.out) hf (fun k _ => by have := acA_in hr hA (stI N.length k); omega)
    (fun k hk u hu => key1C _ _ N A w.heap.size k u ((hD.keep hb0.out).keep hu) hr hk (hs_keep hz0.out hu)))
  have hR0 := hid (kinds0 (A := A) hf)
  have hkl : Hid ((kndK (fun k => acA N A (stI N.length k)) (N.length + 1)).length = N.length + 1) := hid (kndK_len _ _)
  generalize kndK (fun k => acA N A (stI N.length k)) (N.length + 1) = K0 at G1 hR0 hkl
  generalize (distK (fun k => acA N A (stI N.length k)) (N.length + 1)).length = m0 at G1 hR0
  have G2 : Hid (∀ (r c : Nat) (K : List Int) (v : Value) (q : Nat) (u : World), KRel N A r K c → Below W0.heap.size W0 u → Nums u v K → u.heap[q]? = some (.cells #[v] 45 (0, 0)) → ∃ K' c', KRel N A (r + 1) K' c' ∧ Calls Tryz.prog 35 #[.agg #[.slice na N.length nc, .slice aa A.length ac], .func (.func 36) #[] #[.pointer (some ⟨w.heap.size, 0, none⟩), .pointer (some ⟨q, 0, none⟩)]] u fun e w' => ∃ v', e = .returned (.tuple #[v', .int .i64 (c' : Int)]) ∧ Own w' u.heap.size v' K' ∧ Below u.heap.size u w') := hid (fun r c K v q u hR hu hK hq => ⟨_, _, kindsS hr hR, toldSC _ _ N A (fun k => keyP N K (stI N.length k) 256) _ _ u ((hD.keep hb0.out).keep hu) hf (fun k _ => by rw [keyP_len]; omega)
    (fun k hk u' hu' => key2C _ _ v N A K w.heap.size q k u' (((hD.keep hb0.out).keep hu).keep hu') hr hk (hs_keep (hs_keep hz0.out hu) hu') (hs_keep hq hu') (hK.keep hu') hR.len hR.ok)⟩)
  have hmf : ∀ (fn : Fn) (first cap : Array Value) (w : World), (Instr.makeFunc fn first cap).run Tryz.prog w = .ok (.func fn first cap) w := fun _ _ _ _ => rfl
  have hrH := hid hr
  clear hD hr hA
  go_enter Tryz.func21, Tryz.ntmps21
  go_wp2_with (go_at_call 33; refine G1.out.mono ?_; rintro e w1 ⟨v1, rfl, hO1, hb1⟩; obtain ⟨a1, c1', rfl⟩ := own_shape' hO1 hkl.out; have hO1 := hid hO1)
  have hal1 := hid (al' w1 (.cells #[.slice a1 (N.length + 1) c1'] 45))
  have hq1 := hid (heap_new w1 (.cells #[.slice a1 (N.length + 1) c1'] 45))
  have hN1 := hid ((Nums.of_row hO1.out).keep hal1.out)
  have hb1a := hid (bl_step hb1 hal1.out)
  have hqw : Hid (W0.heap.size ≤ w1.heap.size) := hid hb1.size
  clear c0 c1 hW0 G1 hO1
  generalize w1.alloc (.cells #[.slice a1 (N.length + 1) c1'] 45) = W2 at hq1 hN1 hb1a ⊢
  generalize w1.heap.size = q at hq1 hqw ⊢
  go_loopw [4] (fun cv wr => ∃ (r c : Nat) (K : List Int) (a : Option Addr) (cp : Nat), c ≤ N.length + 1 ∧ cv = .int .i64 (c : Int) ∧ Hid (KRel N A r K c) ∧ Hid (Nums wr (.slice a (N.length + 1) cp) K) ∧ Hid (wr.heap[q]? = some (.cells #[.slice a (N.length + 1) cp] 45 (0, 0))) ∧ Hid (Below W0.heap.size W0 wr)) (fun cv _ => 1000 - (intOf cv).toNat)
  case atStart => exact ⟨0, m0, K0, a1, c1', by rw [hR0.out.cnt]; exact distK_len _ _, rfl, hR0, hN1, hq1, hb1a⟩
  case round =>
    obtain ⟨r, c, K, a, cp, hc, rfl, hR, hN, hq, hbl⟩ := hrel
    obtain ⟨K', c', hR', G⟩ := G2.out r c K _ q wr hR.out hbl.out hN.out hq.out
    have G := hid G
    have hR' := hid hR'
    obtain ⟨hgr1, hgr2⟩ := hR.out.grow hR'.out
    obtain ⟨d0, d1, -⟩ := cells2m (hs_keep hz0.out hbl.out)
    have hlt : Hid (q < wr.heap.size) := hid (blk_lt hq.out)
    have hkl' : Hid (K'.length = N.length + 1) := hid hR'.out.len
    by_cases he : c' = c
    · subst he
      go_wp2_with (go_at_call 35; refine G.out.mono ?_; rintro e w3 ⟨v3, rfl, hO3, hb3⟩; obtain ⟨a3, c3, rfl⟩ := own_shape' hO3 hkl'.out; have hq3 := hs_keep hq.out hb3; have e0 := blk_cell (o := 0) hq3 rfl; have hN3 := hid (hN.out.keep hb3); clear hq3)
      go_ret
      exact ⟨_, K, rfl, hN3.out, hR.out.stop hrH.out hR'.out, bl_step hb0.out (bl_step hbl.out hb3)⟩
    · have hne : ¬ (c' : Int) = (c : Int) := by omega
      have hne2 : ((c' : Int) == (c : Int)) = false := beq_eq_false_iff_ne.2 hne
      go_wp2_with (go_at_call 35; refine G.out.mono ?_; rintro e w3 ⟨v3, rfl, hO3, hb3⟩; obtain ⟨a3, c3, rfl⟩ := own_shape' hO3 hkl'.out; have hq3 := hid (hs_keep hq.out hb3); have e0 := blk_cell (o := 0) hq3.out rfl; have e1 := blk_frozen hq3.out 0; have hO3 := hid hO3)
      go_roundw
      case rel => exact ⟨r + 1, c', K', a3, c3, hgr2, rfl, hR', hid (Nums.of_row (own_set hO3.out (fun e => by have := (hO3.out.lt _ e).1; have := hlt.out; omega))), hid (heap_setCell hq3.out), hid (bl_set (bl_step hbl.out hb3) _ _ _ hqw.out)⟩
      case measure => simp [intOf]; omega

end Go.Proofs.YtjelgphhlcecoaaGreatDoor
