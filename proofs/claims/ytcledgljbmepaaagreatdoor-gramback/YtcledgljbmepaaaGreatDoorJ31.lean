/- sideWord, lastTerm, ofPower, ruleLine. ofPower, ruleLine. gram.Name. levelLine, alternative, alternatives. -/
import Derived.Test.YtcledgljbmepaaaGreatDoorJ24
import Derived.Test.YtcledgljbmepaaaGreatDoorJ30
import Derived.Test.YtcledgljbmepaaaGreatDoorJ16
import Derived.Test.YtcledgljbmepaaaGreatDoorJ12
import Derived.Test.YtcledgljbmepaaaGreatDoorJ15
namespace Go.Proofs.YtcledgljbmepaaaGreatDoor
open Go.RowKit Go.Maps Go.Sort

def sdW (n : Int) : Txt := if n = 1 then kLeft else if n = 2 then kRight else if n = 3 then kNone else []
theorem sdW_len (n : Int) : (sdW n).length ≤ 5 := by
  unfold sdW
  split
  · decide
  · split
    · decide
    · split
      · decide
      · exact Nat.zero_le _
set_option maxRecDepth 20000 in
set_option maxHeartbeats 4000000 in
theorem sideWordC (n : Int) (w : World) : Calls Tryz.prog 56 #[.int .i64 n] w fun e w' => e = .returned (.string (strT (sdW n))) ∧ Below w.heap.size w w' := by
  have GC := hid (sidesC w)
  have hout : n < 0 ∨ 4 ≤ n → strT (sdW n) = ⟨#[]⟩ := fun h => by
    have : sdW n = [] := by
      unfold sdW
      rw [if_neg (by omega), if_neg (by omega), if_neg (by omega)]
    rw [this]; rfl
  rcases Int.lt_or_le n 0 with h0 | h0
  · rw [hout (.inl h0)]
    clear hout
    go_enter Tryz.func56, Tryz.ntmps56
    go_wp2_with (go_at_call 75; refine GC.out.mono ?_; clear GC; rintro e w2 ⟨rfl, hc2⟩; have hc2 := hid (bl_step hc2 (al' w2 (.cells #[.string ⟨#[]⟩, .string ⟨#[108, 101, 102, 116]⟩, .string ⟨#[114, 105, 103, 104, 116]⟩, .string ⟨#[110, 111, 110, 101]⟩] 135))))
    go_ret
    exact ⟨rfl, hc2.out⟩
  · have h0n : ¬ n < 0 := by omega
    rcases Int.lt_or_le n 4 with h4 | h4
    · have h4n : ¬ 4 ≤ n := by omega
      have hn : n = 0 ∨ n = 1 ∨ n = 2 ∨ n = 3 := by omega
      rcases hn with rfl | rfl | rfl | rfl
      · rw [show strT (sdW 0) = ⟨#[]⟩ from rfl]
        clear hout h0 h0n h4 h4n
        go_enter Tryz.func56, Tryz.ntmps56
        go_wp2_with (go_at_call 75; refine GC.out.mono ?_; clear GC; rintro e w2 ⟨rfl, hc2⟩; have hc2 := hid (bl_step hc2 (al' w2 (.cells #[.string ⟨#[]⟩, .string ⟨#[108, 101, 102, 116]⟩, .string ⟨#[114, 105, 103, 104, 116]⟩, .string ⟨#[110, 111, 110, 101]⟩] 135))))
        go_ret
        exact ⟨rfl, hc2.out⟩
      · rw [show strT (sdW 1) = ⟨#[108, 101, 102, 116]⟩ from rfl]
        clear hout h0 h0n h4 h4n
        go_enter Tryz.func56, Tryz.ntmps56
        go_wp2_with (go_at_call 75; refine GC.out.mono ?_; clear GC; rintro e w2 ⟨rfl, hc2⟩; have hc2 := hid (bl_step hc2 (al' w2 (.cells #[.string ⟨#[]⟩, .string ⟨#[108, 101, 102, 116]⟩, .string ⟨#[114, 105, 103, 104, 116]⟩, .string ⟨#[110, 111, 110, 101]⟩] 135))))
        go_ret
        exact ⟨rfl, hc2.out⟩
      · rw [show strT (sdW 2) = ⟨#[114, 105, 103, 104, 116]⟩ from rfl]
        clear hout h0 h0n h4 h4n
        go_enter Tryz.func56, Tryz.ntmps56
        go_wp2_with (go_at_call 75; refine GC.out.mono ?_; clear GC; rintro e w2 ⟨rfl, hc2⟩; have hc2 := hid (bl_step hc2 (al' w2 (.cells #[.string ⟨#[]⟩, .string ⟨#[108, 101, 102, 116]⟩, .string ⟨#[114, 105, 103, 104, 116]⟩, .string ⟨#[110, 111, 110, 101]⟩] 135))))
        go_ret
        exact ⟨rfl, hc2.out⟩
      · rw [show strT (sdW 3) = ⟨#[110, 111, 110, 101]⟩ from rfl]
        clear hout h0 h0n h4 h4n
        go_enter Tryz.func56, Tryz.ntmps56
        go_wp2_with (go_at_call 75; refine GC.out.mono ?_; clear GC; rintro e w2 ⟨rfl, hc2⟩; have hc2 := hid (bl_step hc2 (al' w2 (.cells #[.string ⟨#[]⟩, .string ⟨#[108, 101, 102, 116]⟩, .string ⟨#[114, 105, 103, 104, 116]⟩, .string ⟨#[110, 111, 110, 101]⟩] 135))))
        go_ret
        exact ⟨rfl, hc2.out⟩
    · rw [hout (.inr h4)]
      clear hout h0
      go_enter Tryz.func56, Tryz.ntmps56
      go_wp2_with (go_at_call 75; refine GC.out.mono ?_; clear GC; rintro e w2 ⟨rfl, hc2⟩; have hc2 := hid (bl_step hc2 (al' w2 (.cells #[.string ⟨#[]⟩, .string ⟨#[108, 101, 102, 116]⟩, .string ⟨#[114, 105, 103, 104, 116]⟩, .string ⟨#[110, 111, 110, 101]⟩] 135))))
      go_ret
      exact ⟨rfl, hc2.out⟩
set_option maxRecDepth 20000 in
theorem termsG (g : Gm) (rv nv lv pv : Value) (w : World) (hV : GmV w rv nv lv pv g) (hr : g.rules.length ≤ 1000000) :
    Calls Tryz.prog 21 #[gmA rv nv lv pv g.start] w fun e w' => e = .returned (.int .i64 (g.terms : Int)) ∧ Below w.heap.size w w' := termsL rv nv lv pv g.start g.rules w (rulL_of hV.rules) hr
/-- the last terminal among the first k symbols -/
def lastT (tm : Nat) (r : List Int) : Nat → Int
  | 0 => 0
  | k + 1 => if 1 ≤ r.getD k 0 ∧ r.getD k 0 ≤ (tm : Int) then r.getD k 0 else lastT tm r k
set_option maxRecDepth 20000 in
set_option maxHeartbeats 4000000 in
theorem lastTermC (g : Gm) (rv nv lv pv v : Value) (r : List Int) (w : World) (hV : GmV w rv nv lv pv g) (hr : g.rules.length ≤ 1000000) (hv : Nums w v r) (hl : r.length ≤ 1000000) :
    Calls Tryz.prog 86 #[gmA rv nv lv pv g.start, v] w fun e w' => e = .returned (.int .i64 (lastT g.terms r r.length)) ∧ Below w.heap.size w w' := by
  obtain ⟨ra, rc, rfl⟩ := hV.rules.shape
  obtain ⟨na, nc, rfl⟩ := hV.nonts.shape
  obtain ⟨la, lc, rfl⟩ := hV.levels.shape
  obtain ⟨pa, pc, rfl⟩ := hV.prods.shape
  have hB1 := al' w (.cells #[.slice ra g.rules.length rc, .slice na g.nonts.length nc, .slice la g.levels.length lc, .slice pa g.prods.length pc, .int .i64 g.start] 28)
  have k1 := heap_new w (.cells #[.slice ra g.rules.length rc, .slice na g.nonts.length nc, .slice la g.levels.length lc, .slice pa g.prods.length pc, .int .i64 g.start] 28)
  obtain ⟨W, hW⟩ : ∃ x, w.alloc (.cells #[.slice ra g.rules.length rc, .slice na g.nonts.length nc, .slice la g.levels.length lc, .slice pa g.prods.length pc, .int .i64 g.start] 28) = x := ⟨_, rfl⟩
  rw [hW] at hB1 k1
  have GT := hid (termsG g _ _ _ _ W (hV.keep hB1) hr)
  have hKp := hid (fun u (hu : Below w.heap.size w u) => hv.keep hu)
  obtain ⟨a, c, rfl, -⟩ := hv
  obtain ⟨z0, z1, z2, z3, z4⟩ := cells5m k1
  have hB := hid hB1
  clear hV hB1 k1 hr
  obtain ⟨R, hR⟩ : ∃ x, Hid (lastT g.terms r r.length = x) := ⟨_, hid rfl⟩
  rw [hR.out]
  obtain ⟨n, hn⟩ : ∃ n, Hid (r.length = n) := ⟨_, hid rfl⟩
  rw [hn.out] at hR hl hKp ⊢
  generalize g.rules.length = rn at *
  generalize g.nonts.length = nn at *
  generalize g.levels.length = ll at *
  generalize g.prods.length = pp at *
  generalize g.terms = tm at *
  generalize g.start = st at *
  go_enter Tryz.func86, Tryz.ntmps86
  go_wp2_with (go_at_call 21; refine GT.out.mono ?_; clear GT; rintro e w2 ⟨rfl, hc2⟩; have hc2 := hid (bl_step hB.out hc2))
  clear hW z0 z1 z2 z3 z4
  go_loopw [6] (fun i wr => ∃ k : Nat, k ≤ n ∧ i = .int .i64 ((k : Int) - 1) ∧ Hid (lastT tm r k = R) ∧ Hid (Below w.heap.size w wr)) (fun i _ => (intOf i + 1).toNat)
  case atStart => exact ⟨n, Nat.le_refl _, by go_num, hR, hc2⟩
  case round =>
    obtain ⟨k, hk, rfl, hlt, hbl⟩ := hrel
    cases k with
    | zero =>
      have hz : ¬ (0 : Int) ≤ ((0 : Nat) : Int) - 1 := by omega
      have h9 : Hid (R = 0) := hid (by rw [← hlt.out]; rfl)
      obtain rfl := h9.out
      go_wp2
      go_ret
      exact ⟨rfl, hbl.out⟩
    | succ k =>
      have hz : (0 : Int) ≤ ((k + 1 : Nat) : Int) - 1 := by omega
      have hkl : k < r.length := by rw [hn.out]; omega
      obtain ⟨a', c', e, -, -, hat⟩ := hKp.out wr hbl.out
      injection e with e _ _
      subst e
      obtain ⟨b, o, rfl, hb, hc⟩ := hat k hkl
      have hget : r.getD k 0 = r[k] := by rw [List.getD_eq_getElem?_getD, List.getElem?_eq_getElem hkl]; rfl
      have hs : Hid ((if 1 ≤ r.getD k 0 ∧ r.getD k 0 ≤ (tm : Int) then r.getD k 0 else lastT tm r k) = R) := hid hlt.out
      rw [hget] at hs
      have hix : ((k + 1 : Nat) : Int) - 1 = (k : Int) := by omega
      have hkz : (k : Int) < (n : Int) := by omega
      rw [hix]
      clear hget hat hlt hix hz
      generalize r[k] = x at *
      by_cases h1 : 1 ≤ x
      · by_cases h2 : x ≤ (tm : Int)
        · have h9 := hs.out
          rw [if_pos ⟨h1, h2⟩] at h9
          subst h9
          go_wp2
          go_ret
          exact ⟨rfl, hbl.out⟩
        · have h9 := hid hs.out
          rw [if_neg (fun e => h2 e.2)] at h9
          clear hs
          go_wp2
          go_roundw
          case rel => exact ⟨k, by omega, by go_num, h9, hbl⟩
          case measure => simp [intOf]
      · have h9 := hid hs.out
        rw [if_neg (fun e => h1 e.1)] at h9
        clear hs
        go_wp2
        go_roundw
        case rel => exact ⟨k, by omega, by go_num, h9, hbl⟩
        case measure => simp [intOf]

end Go.Proofs.YtcledgljbmepaaaGreatDoor
namespace Go.Proofs.YtcledgljbmepaaaGreatDoor
open Go.RowKit Go.Maps Go.Sort

/-- the terminals ahead of k of a power -/
def ofPk (g : Gm) (pw : Int) (k : Nat) : List Int := ((List.range k).filter fun t => decide (1 ≤ t) && decide ((g.levels.getD t (0, 0)).1 = pw)).map fun (t : Nat) => (t : Int)
theorem ofPk_one (g : Gm) (pw : Int) : ofPk g pw 1 = [] := by
  unfold ofPk
  simp
theorem ofPk_succ (g : Gm) (pw : Int) {k : Nat} (hk : 1 ≤ k) : ofPk g pw (k + 1) = ofPk g pw k ++ (if (g.levels.getD k (0, 0)).1 = pw then [(k : Int)] else []) := by
  unfold ofPk
  rw [List.range_succ, List.filter_append, List.map_append]
  by_cases h : (g.levels.getD k (0, 0)).1 = pw
  · rw [if_pos h, List.filter_cons_of_pos (by simp only [Bool.and_eq_true, decide_eq_true_eq]; exact ⟨hk, h⟩)]
    rfl
  · rw [if_neg h, List.filter_cons_of_neg (by simp only [Bool.and_eq_true, decide_eq_true_eq]; exact fun e => h e.2)]
    rfl
theorem ofPk_mem {g : Gm} {pw : Int} {k : Nat} {t : Int} (h : t ∈ ofPk g pw k) : 1 ≤ t ∧ t < (k : Int) := by
  unfold ofPk at h
  rw [List.mem_map] at h
  obtain ⟨n, hn, rfl⟩ := h
  rw [List.mem_filter, List.mem_range] at hn
  obtain ⟨h1, h2⟩ := hn
  simp only [Bool.and_eq_true, decide_eq_true_eq] at h2
  omega
theorem ofPk_len (g : Gm) (pw : Int) (k : Nat) : (ofPk g pw k).length ≤ k := by
  unfold ofPk
  rw [List.length_map]
  exact Nat.le_trans (List.length_filter_le _ _) (by rw [List.length_range]; exact Nat.le_refl _)
set_option maxRecDepth 20000 in
set_option maxHeartbeats 4000000 in
theorem ofPowerC (g : Gm) (pw : Int) (rv nv lv pv : Value) (w : World) (hV : GmV w rv nv lv pv g) (hl : g.levels.length ≤ 1000) (h1 : 1 ≤ g.levels.length) :
    Calls Tryz.prog 33 #[gmA rv nv lv pv g.start, .int .i64 pw] w fun e w' => ∃ v, e = .returned v ∧ (∃ B, Own w' B v (ofPk g pw g.levels.length)) ∧ Below w.heap.size w w' := by
  obtain ⟨la, lc, rfl⟩ := hV.levels.shape
  have hB1 := al' w (.cells #[rv, nv, .slice la g.levels.length lc, pv, .int .i64 g.start] 28)
  have k1 := heap_new w (.cells #[rv, nv, .slice la g.levels.length lc, pv, .int .i64 g.start] 28)
  obtain ⟨W, hW⟩ : ∃ x, w.alloc (.cells #[rv, nv, .slice la g.levels.length lc, pv, .int .i64 g.start] 28) = x := ⟨_, rfl⟩
  rw [hW] at hB1 k1
  have hKp : Hid (∀ u, Below w.heap.size w u → Lst 2 LevAt u (.slice la g.levels.length lc) g.levels) := hid (fun u hu => (hV.keep hu).levels)
  have hkk : Hid (∀ u, Below W.heap.size W u → u.cell? ⟨w.heap.size, 2, none⟩ = some (.slice la g.levels.length lc)) := hid (fun u hu => blk_cell (hs_keep k1 hu) rfl)
  have hB := hid hB1
  have hO0 : Hid (Own W W.heap.size (.slice none 0 0) (ofPk g pw 1)) := hid (by rw [ofPk_one]; exact World.ownsRow_nil _ _ _ _)
  have hsc := hid (fun k (hk : 1 ≤ k) => ofPk_succ g pw hk)
  have hlen := hid (fun k => ofPk_len g pw k)
  clear hV k1 hB1
  obtain ⟨n, hn⟩ : ∃ n, Hid (g.levels.length = n) := ⟨_, hid rfl⟩
  rw [hn.out] at hl h1 hKp hkk hW ⊢
  generalize hgl : g.levels = L at *
  generalize g.start = st at *
  have hgl := hid hgl
  generalize ofPk g pw = F at *
  go_enter Tryz.func33, Tryz.ntmps33
  go_wp2
  clear hW
  go_loopw [5, 6] (fun v i wr => ∃ k : Nat, 1 ≤ k ∧ k ≤ n ∧ i = .int .i64 (k : Int) ∧ Hid (Own wr W.heap.size v (F k)) ∧ Hid (Below W.heap.size W wr)) (fun _ i _ => n - (intOf i).toNat)
  case atStart => exact ⟨1, Nat.le_refl _, h1, rfl, hO0, hid (Below.refl _ _)⟩
  case round =>
    obtain ⟨k, hk1, hk, rfl, hO, hbl⟩ := hrel
    have c2 := hkk.out wr hbl.out
    by_cases hlt : k < n
    · have hltz : (k : Int) < (n : Int) := by omega
      have hkl : k < L.length := by rw [hn.out]; exact hlt
      obtain ⟨b, o, e, hb, hx⟩ := (hKp.out wr (bl_step hB.out hbl.out)).at hkl
      subst e
      have x0 := hx.1
      have hs := hsc.out k hk1
      rw [List.getD_eq_getElem?_getD, List.getElem?_eq_getElem hkl, Option.getD_some] at hs
      have hln := hlen.out k
      clear hx hb
      generalize L[k] = x at *
      by_cases he : x.1 = pw
      · rw [if_pos he] at hs
        have hs := hid hs
        obtain ⟨a', c', w', hrun, hO', hb'⟩ := app1N hO.out (k : Int) (by omega) hbl.out.size
        have hO9 : Hid (Own w' W.heap.size (.slice a' ((F k).length + 1) c') (F (k + 1))) := hid (by rw [hs.out]; exact hO')
        have hb9 := hid (hbl.out.trans hb')
        have heq : (x.1 == pw) = true := by simpa using he
        clear hO' hb' hs he hlen hsc hln hO
        generalize (F k).length = m at *
        go_wp2_with (at_builtin; refine wp_run _ rfl _ _ _ rfl _ _ rfl rfl hrun ?_; clear hrun)
        go_roundw
        case rel => exact ⟨k + 1, by omega, by omega, by go_num, hO9, hb9⟩
        case measure => simp [intOf]; omega
      · rw [if_neg he, List.append_nil] at hs
        have hO9 : Hid (Own wr W.heap.size _ (F (k + 1))) := hid (by rw [hs]; exact hO.out)
        have heq : (x.1 == pw) = false := by simpa using he
        clear hs he hlen hsc hln hO
        go_wp2
        go_roundw
        case rel => exact ⟨k + 1, by omega, by omega, by go_num, hO9, hbl⟩
        case measure => simp [intOf]; omega
    · have hltz : ¬ (k : Int) < (n : Int) := by omega
      obtain rfl : k = n := by omega
      have hO9 := hO
      go_wp2
      go_ret
      exact ⟨_, rfl, ⟨_, hO9.out⟩, bl_step hB.out hbl.out⟩
/-- the text of a rule -/
noncomputable def shR (l : List Cel) : Txt := open Classical in if h : rightB l = true then txt (Classical.choose (right_tree h)) else []
theorem shR_of {l : List Cel} (h : rightB l = true) : ∃ t : Rx, t.ok ∧ post t = l ∧ l.length ≤ 60 ∧ shR l = txt t := by
  have hc := Classical.choose_spec (right_tree h)
  refine ⟨_, hc.1, hc.2.1, hc.2.2, ?_⟩
  unfold shR
  rw [dif_pos h]
theorem shR_len {l : List Cel} (h : rightB l = true) : (shR l).length ≤ 180000 := by
  obtain ⟨t, -, h2, h3, h4⟩ := shR_of h
  rw [h4]
  have := txt_len t
  rw [h2] at this
  omega
def rlH (b : Bool) : Txt := if b then [115, 107, 105, 112, 32] else [116, 111, 107, 101, 110, 32]
noncomputable def rlT (r : Rl) : Txt := rlH r.skip ++ r.name ++ [32, 47] ++ shR r.re ++ [47, 59]
theorem rlT_len {r : Rl} (h1 : r.name.length ≤ 16) (h2 : rightB r.re = true) : (rlT r).length ≤ 200000 := by
  unfold rlT
  have h3 := shR_len h2
  have h4 : (rlH r.skip).length ≤ 6 := by unfold rlH; split <;> decide
  simp only [List.length_append, List.length_cons, List.length_nil]
  omega
set_option maxRecDepth 20000 in
set_option maxHeartbeats 4000000 in
theorem ruleLineC (r : Rl) (v : Value) (w : World) (h : Cels w v r.re) (hr : rightB r.re = true) (hT : Tab w) (hnl : r.name.length ≤ 16) :
    Calls Tryz.prog 32 #[.agg #[.string (strT r.name), v, .bool r.skip]] w fun e w' => e = .returned (.string (strT (rlT r))) ∧ Below w.heap.size w w' := by
  obtain ⟨t, ho, hp, h60, hsh⟩ := shR_of hr
  obtain ⟨a, c, rfl⟩ := shapeC h
  have hB1 := al' w (.cells #[.string (strT r.name), .slice a r.re.length c, .bool r.skip] 68)
  have k1 := heap_new w (.cells #[.string (strT r.name), .slice a r.re.length c, .bool r.skip] 68)
  have G := hid (showPYes _ t (w.alloc (.cells #[.string (strT r.name), .slice a r.re.length c, .bool r.skip] 68)) (by rw [hp]; exact h.keep hB1) ho (by rw [hp]; exact h60) (hT.keep hB1))
  rw [← hsh] at G
  have hfin : Hid (strT (rlT r) = strT (rlH r.skip) ++ strT r.name ++ ⟨#[32, 47]⟩ ++ strT (shR r.re) ++ ⟨#[47, 59]⟩) := hid (by
    unfold rlT
    rw [← strT_app, ← strT_app, ← strT_app, ← strT_app]
    rfl)
  have hk := hid k1
  have hB := hid hB1
  have hS := strT_size r.name
  have hX := strT_size (shR r.re)
  have hXl := shR_len hr
  rw [hfin.out]
  clear hfin hp hsh h hr hT h60 ho hB1 k1
  generalize strT (shR r.re) = X at *
  generalize strT r.name = S at *
  generalize r.re.length = m at *
  have q : ∀ n, n ≤ 6 → ¬ 9223372036854775807 < n + S.size ∧ ¬ 9223372036854775807 < n + S.size + 2 ∧ ¬ 9223372036854775807 < n + S.size + 2 + X.size ∧ ¬ 9223372036854775807 < n + S.size + 2 + X.size + 2 := fun n hn => by omega
  clear hS hX hXl hnl
  cases hs : r.skip with
  | true =>
    rw [hs] at G hk hB
    have e1 : strT (rlH true) = ⟨#[115, 107, 105, 112, 32]⟩ := rfl
    rw [e1]
    obtain ⟨q0, q1, q2, q3⟩ := q 5 (by decide)
    clear e1 hs q
    go_enter Tryz.func32, Tryz.ntmps32
    go_wp2_with (go_at_call 55; refine G.out.mono ?_; clear G; rintro e w2 ⟨rfl, hc⟩; obtain ⟨x0, x1, x2⟩ := cells3q (hs_keep hk.out hc); have hc := hid hc)
    go_ret
    exact ⟨rfl, bl_step hB.out hc.out⟩
  | false =>
    rw [hs] at G hk hB
    have e1 : strT (rlH false) = ⟨#[116, 111, 107, 101, 110, 32]⟩ := rfl
    rw [e1]
    obtain ⟨q0, q1, q2, q3⟩ := q 6 (by decide)
    clear e1 hs q
    go_enter Tryz.func32, Tryz.ntmps32
    go_wp2_with (go_at_call 55; refine G.out.mono ?_; clear G; rintro e w2 ⟨rfl, hc⟩; obtain ⟨x0, x1, x2⟩ := cells3q (hs_keep hk.out hc); have hc := hid hc)
    go_ret
    exact ⟨rfl, bl_step hB.out hc.out⟩

end Go.Proofs.YtcledgljbmepaaaGreatDoor
namespace Go.Proofs.YtcledgljbmepaaaGreatDoor
open Go.RowKit Go.Maps

theorem nms_at {l : List Rl} {k : Nat} (hk : k < l.length) (hs : l[k].skip = false) : (nmsK l l.length)[trmK l k + 1]? = some l[k].name := by
  have h1 : nmsK l l.length = nmsK l (k + 1) ++ ((l.drop (k + 1)).filter fun r => !r.skip).map Rl.name := by
    unfold nmsK
    rw [List.cons_append, ← List.map_append, ← List.filter_append, List.take_append_drop, List.take_length]
  have h2 := nmsK_succ hk
  rw [hs, if_neg (by decide)] at h2
  have h3 := nmsK_len l k
  rw [h1, h2, List.append_assoc, List.getElem?_append_right (by omega), h3, Nat.sub_self]
  rfl
theorem gname_rule {g : Gm} {k : Nat} (hk : k < g.rules.length) (hs : g.rules[k].skip = false) {n : Int} (hn : n = (trmK g.rules k : Int) + 1) : g.name n = g.rules[k].name := by
  unfold Gm.name Gm.names
  have h3 := nmsK_len g.rules g.rules.length
  have h4 := nms_at hk hs
  have h5 := (List.getElem?_eq_some_iff.1 h4).1
  rw [if_neg (by omega), show n.toNat = trmK g.rules k + 1 by omega, List.getD_eq_getElem?_getD, List.getElem?_append_left h5, h4]
  rfl
theorem gname_none {g : Gm} {n : Int} (hn : (g.terms : Int) + (g.nonts.length : Int) < n) : g.name n = [] := by
  unfold Gm.name Gm.names
  have h3 := nmsK_len g.rules g.rules.length
  unfold Gm.terms at hn
  rw [if_neg (by omega), List.getD_eq_getElem?_getD, List.getElem?_eq_none (by rw [List.length_append, h3]; omega)]
  rfl
theorem gname_nont {g : Gm} {j : Nat} (hj : j < g.nonts.length) {n : Int} (hn : n = (g.terms : Int) + 1 + (j : Int)) : g.name n = g.nonts[j] := by
  unfold Gm.name Gm.names
  have h3 := nmsK_len g.rules g.rules.length
  unfold Gm.terms at hn
  rw [if_neg (by omega), List.getD_eq_getElem?_getD, List.getElem?_append_right (by omega), show n.toNat - (nmsK g.rules g.rules.length).length = j by omega, List.getElem?_eq_getElem hj]
  rfl
set_option maxRecDepth 20000 in
set_option maxHeartbeats 8000000 in
theorem gnameC (g : Gm) (n : Int) (rv nv lv pv : Value) (w : World) (hV : GmV w rv nv lv pv g) (hn : n ≤ 9223372036854775807) (hr : g.rules.length ≤ 1000000) (_hN : g.nonts.length ≤ 1000000) :
    Calls Tryz.prog 35 #[gmA rv nv lv pv g.start, .int .i64 n] w fun e w' => e = .returned (.string (strT (g.name n))) ∧ Below w.heap.size w w' := by
  have h0 : Hid (∀ u, Below w.heap.size w u → RulL u rv g.rules ∧ Lst 1 TxtAt u nv g.nonts) := hid (fun u hu => ⟨(rulL_of hV.rules).keep hu, (hV.keep hu).nonts⟩)
  obtain ⟨a, c, rfl⟩ := hV.rules.shape
  obtain ⟨na, nc, rfl⟩ := hV.nonts.shape
  clear hV
  have hA : Hid (∀ k (hk : k < g.rules.length), g.rules[k].skip = false → n = (trmK g.rules k : Int) + 1 → strT (g.name n) = strT g.rules[k].name) := hid (fun k hk hs h => by rw [gname_rule hk hs h])
  have hB : Hid ((g.terms : Int) + (g.nonts.length : Int) < n → strT (g.name n) = ⟨#[]⟩) := hid (fun h => by rw [gname_none h]; rfl)
  have hC : Hid (∀ j (hj : j < g.nonts.length), n = (g.terms : Int) + 1 + (j : Int) → strT (g.name n) = strT g.nonts[j]) := hid (fun j hj h => by rw [gname_nont hj h])
  have hZ : Hid (n = 0 → strT (g.name n) = ⟨#[36]⟩) := hid (fun h => by subst h; rfl)
  have hY : Hid (n < 0 → strT (g.name n) = ⟨#[]⟩) := hid (fun h => by unfold Gm.name; rw [if_pos h]; rfl)
  have hT : Hid (g.terms = trmK g.rules g.rules.length) := hid rfl
  have hB1 : Hid (Below w.heap.size w (w.alloc (.cells #[.slice a g.rules.length c, .slice na g.nonts.length nc, lv, pv, .int .i64 g.start] 28))) := hid (al' w _)
  have hk1 := heap_new w (.cells #[.slice a g.rules.length c, .slice na g.nonts.length nc, lv, pv, .int .i64 g.start] 28)
  generalize strT (g.name n) = U at *
  generalize g.terms = tm at *
  obtain ⟨W1, hW1⟩ : ∃ x, w.alloc (.cells #[.slice a g.rules.length c, .slice na g.nonts.length nc, lv, pv, .int .i64 g.start] 28) = x := ⟨_, rfl⟩
  rw [hW1] at hB1 hk1
  have c0 : W1.cell? ⟨w.heap.size, 0, none⟩ = some (.slice a g.rules.length c) := blk_cell hk1 rfl
  have hk1 := hid hk1
  generalize hl : g.rules = l at *
  generalize hns : g.nonts = ns at *
  obtain ⟨m, hm⟩ : ∃ n, Hid (l.length = n) := ⟨_, hid rfl⟩
  obtain ⟨nn, hnn⟩ : ∃ n, Hid (ns.length = n) := ⟨_, hid rfl⟩
  rw [hm.out] at hr c0 hW1 hk1 hT h0 ⊢
  rw [hnn.out] at hW1 hk1 hB h0 ⊢
  clear hl hns
  rcases Int.lt_trichotomy n 0 with hneg | hzero | hpos
  · have h9 := hY.out hneg
    subst h9
    have hne : (n == 0) = false := by simp; omega
    clear hA hB hC hZ hY hT h0 hk1 c0
    go_enter Tryz.func35, Tryz.ntmps35
    go_wp2
    go_ret
    exact ⟨rfl, hB1.out⟩
  · have h9 := hZ.out hzero
    subst h9 hzero
    clear hA hB hC hZ hY hT h0 hk1 c0
    go_enter Tryz.func35, Tryz.ntmps35
    go_wp2
    go_ret
    exact ⟨rfl, hB1.out⟩
  · have hne : (n == 0) = false := by simp; omega
    have hnl : ¬ n < 0 := by omega
    clear hZ hY
    go_enter Tryz.func35, Tryz.ntmps35
    go_wp2
    clear hW1 c0 hne hnl
    go_loopw [1, 14] (fun x i wr => ∃ (k : Nat) (y : Int), k ≤ m ∧ i = .int .i64 (k : Int) ∧ x = .int .i64 y ∧ 0 < y ∧ y ≤ 9223372036854775807 ∧ Hid (y + (trmK l k : Int) = n) ∧ Hid (Below W1.heap.size W1 wr)) (fun _ i _ => m - (intOf i).toNat)
    case atStart => exact ⟨0, n, Nat.zero_le _, rfl, rfl, hpos, hn, hid (by unfold trmK; simp), hid (Below.refl _ _)⟩
    case round =>
      obtain ⟨k, y, hk, rfl, rfl, hy0, hy1, hyn, hw⟩ := hrel
      by_cases hlt : k < m
      · have hltz : (k : Int) < (m : Int) := by omega
        have hkl : k < l.length := by rw [hm.out]; exact hlt
        obtain ⟨b, o, xa, xm, xc, he, x0, x1, x2⟩ := (h0.out wr (bl_step hB1.out hw.out)).1.at hkl
        subst he
        have hs := trmK_succ hkl
        have hwn := hid (bl_step hw.out (al' wr (.cells #[.string (strT l[k].name), .slice xa xm xc, .bool l[k].skip] 68)))
        cases hsk : l[k].skip with
        | true =>
          rw [hsk] at x2 hs hwn
          rw [if_pos rfl, Nat.add_zero] at hs
          have hsH := hid hs
          clear hs
          go_wp2
          go_roundw
          case rel => exact ⟨k + 1, y, by omega, by go_num, rfl, hy0, hy1, hid (by rw [hsH.out]; exact hyn.out), hwn⟩
          case measure => simp [intOf]; omega
        | false =>
          rw [hsk] at x2 hs hwn
          rw [if_neg (by decide)] at hs
          have hsH := hid hs
          clear hs
          by_cases h1 : y = 1
          · have hU := hA.out k hkl hsk (by have := hyn.out; omega)
            subst h1
            rw [← hU] at x0 hwn
            clear hU
            go_wp2
            go_ret
            exact ⟨rfl, bl_step hB1.out hwn.out⟩
          · have h2 : (y - 1 == 0) = false := by simp; omega
            go_wp2
            go_roundw
            case rel => exact ⟨k + 1, y - 1, by omega, by go_num, by go_num, by omega, by omega, hid (by rw [hsH.out]; have := hyn.out; omega), hwn⟩
            case measure => simp [intOf]; omega
      · have hltz : ¬ (k : Int) < (m : Int) := by omega
        obtain rfl : k = m := by omega
        have hkk := hs_keep hk1.out hw.out
        have c1 : wr.cell? ⟨w.heap.size, 1, none⟩ = some (.slice na nn nc) := blk_cell hkk rfl
        clear hkk
        have hyt : Hid (y + (tm : Int) = n) := hid (by rw [hT.out]; exact hyn.out)
        by_cases hgt : (nn : Int) < y
        · have hU := hB.out (by have := hyt.out; omega)
          subst hU
          go_wp2
          go_ret
          exact ⟨rfl, bl_step hB1.out hw.out⟩
        · obtain ⟨j, hj⟩ : ∃ j : Nat, y = (j : Int) + 1 := ⟨(y - 1).toNat, by omega⟩
          have hjn : j < ns.length := by rw [hnn.out]; omega
          have hU := hC.out j hjn (by have := hyt.out; omega)
          obtain ⟨b, o, he, -, hx⟩ := (h0.out wr (bl_step hB1.out hw.out)).2.at hjn
          subst he
          have hx : wr.cell? ⟨b, o + j * 1, none⟩ = some (.string (strT ns[j])) := hx
          rw [Nat.mul_one] at hx
          rw [← hU] at hx
          clear hU hyt hyn
          subst hj
          go_wp2
          go_ret
          exact ⟨rfl, bl_step hB1.out hw.out⟩

end Go.Proofs.YtcledgljbmepaaaGreatDoor
namespace Go.Proofs.YtcledgljbmepaaaGreatDoor
open Go.RowKit Go.Maps Go.Sort

theorem name_len16 {g : Gm} (h : ReadG g) (n : Int) : (g.name n).length ≤ 16 := by
  have hall : ∀ t ∈ g.names, t.length ≤ 16 := fun t ht => by
    unfold Gm.names nmsK at ht
    rw [List.mem_append, List.mem_cons, List.mem_map] at ht
    rcases ht with (rfl | ⟨r, hr, rfl⟩) | ht
    · decide
    · have hr := (List.mem_filter.1 hr).1
      rw [List.take_length] at hr
      exact h.rname r hr
    · exact h.nname t ht
  unfold Gm.name
  split
  · exact Nat.zero_le _
  · rw [List.getD_eq_getElem?_getD]
    cases hq : g.names[n.toNat]? with
    | none => exact Nat.zero_le _
    | some t => exact hall t (List.mem_of_getElem? hq)
theorem join_len {l : List Txt} {sep : Txt} {M : Nat} (h : ∀ t ∈ l, t.length ≤ M) : (Lib.join l sep).length ≤ l.length * (M + sep.length) := by
  cases l with
  | nil => exact Nat.zero_le _
  | cons x r =>
    have hl : ∀ l : List Txt, (∀ t ∈ l, t.length ≤ M) → Lib.lens l ≤ l.length * M := by
      intro l
      induction l with
      | nil => intro _; exact Nat.zero_le _
      | cons y l ih =>
        intro hy
        have h1 := hy y List.mem_cons_self
        have h2 := ih (fun t ht => hy t (List.mem_cons_of_mem _ ht))
        have h3 : Lib.lens (y :: l) = y.length + Lib.lens l := by simp [Lib.lens]
        rw [h3, List.length_cons, Nat.add_mul, Nat.one_mul]
        omega
    rw [Lib.join_length]
    have h1 := hl _ h
    have h2 : sep.length * r.length ≤ (x :: r).length * sep.length := by
      rw [List.length_cons, Nat.add_mul, Nat.mul_comm]; omega
    rw [Nat.mul_add]
    omega
/-- the text of a level: k of its terminals told -/
def lvP (g : Gm) (ts : List Int) (k : Nat) : Txt := sdW (g.levels.getD (ts.getD 0 0).toNat (0, 0)).2 ++ ((ts.take k).map fun t => 32 :: g.name t).flatten
def levT (g : Gm) (ts : List Int) : Txt := lvP g ts ts.length ++ [59]
theorem lvP_succ (g : Gm) {ts : List Int} {k : Nat} (hk : k < ts.length) : lvP g ts (k + 1) = lvP g ts k ++ ([32] ++ g.name ts[k]) := by
  unfold lvP
  rw [List.take_add_one, List.getElem?_eq_getElem hk, Option.toList_some, List.map_append, List.flatten_append, List.append_assoc]
  simp
theorem lvP_len {g : Gm} (h : ReadG g) (ts : List Int) (k : Nat) (hk : k ≤ ts.length) : (lvP g ts k).length ≤ 5 + 17 * k := by
  induction k with
  | zero =>
    have := sdW_len (g.levels.getD (ts.getD 0 0).toNat (0, 0)).2
    unfold lvP
    simp only [List.take_zero, List.map_nil, List.flatten_nil, List.append_nil]
    omega
  | succ k ih =>
    have h1 := ih (by omega)
    have h2 := name_len16 h (ts[k]'(by omega))
    rw [lvP_succ g (by omega)]
    simp only [List.length_append, List.length_cons, List.length_nil]
    omega
theorem levT_len {g : Gm} (h : ReadG g) {ts : List Int} (hl : ts.length ≤ 20) : (levT g ts).length ≤ 1000 := by
  have := lvP_len h ts ts.length (Nat.le_refl _)
  unfold levT
  rw [List.length_append, List.length_singleton]
  omega
set_option maxRecDepth 20000 in
set_option maxHeartbeats 8000000 in
theorem levelLineC (g : Gm) (rv nv lv pv v : Value) (ts : List Int) (w : World) (hV : GmV w rv nv lv pv g) (hr : ReadG g) (hv : Nums w v ts) (h0 : 0 < ts.length) (hl : ts.length ≤ 20) (hts : ∀ t ∈ ts, 1 ≤ t ∧ t < (g.levels.length : Int)) :
    Calls Tryz.prog 34 #[gmA rv nv lv pv g.start, v] w fun e w' => e = .returned (.string (strT (levT g ts))) ∧ Below w.heap.size w w' := by
  obtain ⟨ra, rc, rfl⟩ := hV.rules.shape
  obtain ⟨na, nc, rfl⟩ := hV.nonts.shape
  obtain ⟨la, lc, rfl⟩ := hV.levels.shape
  obtain ⟨pa, pc, rfl⟩ := hV.prods.shape
  have hB1 := al' w (.cells #[.slice ra g.rules.length rc, .slice na g.nonts.length nc, .slice la g.levels.length lc, .slice pa g.prods.length pc, .int .i64 g.start] 28)
  have k1 := heap_new w (.cells #[.slice ra g.rules.length rc, .slice na g.nonts.length nc, .slice la g.levels.length lc, .slice pa g.prods.length pc, .int .i64 g.start] 28)
  obtain ⟨W, hW⟩ : ∃ x, w.alloc (.cells #[.slice ra g.rules.length rc, .slice na g.nonts.length nc, .slice la g.levels.length lc, .slice pa g.prods.length pc, .int .i64 g.start] 28) = x := ⟨_, rfl⟩
  rw [hW] at hB1 k1
  have hkk := hid (fun u (hu : Below W.heap.size W u) => cells5m (hs_keep k1 hu))
  have hm0 := hts _ (List.getElem_mem h0)
  obtain ⟨m, hm⟩ : ∃ m : Nat, ts[0] = (m : Int) := ⟨ts[0].toNat, by omega⟩
  have hml : m < g.levels.length := by rw [hm] at hm0; omega
  obtain ⟨b2, o2, e2, hb2, hx2⟩ := (hV.keep hB1).levels.at hml
  subst e2
  obtain ⟨b3, o3, c3, e3, -, hb3, hx3⟩ := hv.at h0
  subst e3
  have hKp := hid (fun u (hu : Below w.heap.size w u) k (hk : k < ts.length) => keep_cell hu (hx3 k hk))
  have x3 : W.cell? ⟨b3, o3, none⟩ = some (.int .i64 (m : Int)) := by rw [← hm]; exact keep_cell hB1 (hx3 0 h0)
  have x2 := hx2.2
  have GN := hid (fun (t : Int) (ht : t ≤ 9223372036854775807) u (hu : Below w.heap.size w u) => gnameC g t _ _ _ _ u (hV.keep hu) ht (by have := hr.rules; omega) (by have := hr.nonts; omega))
  have hside : (g.levels.getD (ts.getD 0 0).toNat (0, 0)).2 = g.levels[m].2 := by
    rw [List.getD_eq_getElem?_getD (l := ts), List.getElem?_eq_getElem h0, Option.getD_some, hm, Int.toNat_natCast, List.getD_eq_getElem?_getD, List.getElem?_eq_getElem hml]
    rfl
  have hP0 : strT (sdW g.levels[m].2) = strT (lvP g ts 0) := by
    unfold lvP
    rw [hside]
    simp
  have hsucc := hid (fun k (hk : k < ts.length) => (by rw [lvP_succ g hk, ← strT_app, ← strT_app]; rfl : strT (lvP g ts (k + 1)) = strT (lvP g ts k) ++ (⟨#[32]⟩ ++ strT (g.name ts[k]))))
  have hlen := hid (fun k (hk : k ≤ ts.length) => (by rw [strT_size]; have := lvP_len hr ts k hk; omega : (strT (lvP g ts k)).size ≤ 1000))
  have hnl := hid (fun t => (by rw [strT_size]; exact name_len16 hr t : (strT (g.name t)).size ≤ 16))
  have hfin : Hid (strT (levT g ts) = strT (lvP g ts ts.length) ++ ⟨#[59]⟩) := hid (by unfold levT; rw [← strT_app]; rfl)
  have cA : Hid (∀ d os, Calls Tryz.prog 56 #[.int .i64 g.levels[m].2] (grow (redrawn W d) os) fun e w'' => e = .returned (.string (strT (lvP g ts 0))) ∧ ∃ p : Regrown, w'' = grow (redrawn W p.d) p.os) := hid (fun d os => by rw [← hP0]; exact Calls.regrown_of (sideWordC _ _))
  have hmz : (m : Int) < (g.levels.length : Int) := by omega
  have hpos : (0 : Int) < (ts.length : Int) := by omega
  have hall := hid (fun k (hk : k < ts.length) => (by have := hts _ (List.getElem_mem hk); have := hr.snd.levels; have h5 : g.terms ≤ g.rules.length := trmK_le _ _; have := hr.rules; omega : ts[k] ≤ 9223372036854775807))
  obtain ⟨z0, z1, z2, z3, z4⟩ := cells5m k1
  have y2 := cell_regrown z2
  have yx3 := cell_regrown x3
  have yx2 := cell_regrown x2
  have hB := hid hB1
  generalize g.levels[m].2 = sv at *
  clear hV hv hB1 k1 hts hm0 hm hml hb2 hx2 hb3 hx3 hside hP0 h0 x2 x3
  obtain ⟨n, hn⟩ : ∃ n, Hid (ts.length = n) := ⟨_, hid rfl⟩
  rw [hfin.out]
  rw [hn.out] at hl hpos hlen ⊢
  obtain ⟨LP, hLP⟩ : ∃ F : Nat → ByteArray, ∀ k, strT (lvP g ts k) = F k := ⟨_, fun _ => rfl⟩
  obtain ⟨NM, hNM⟩ : ∃ F : Int → ByteArray, ∀ k, strT (g.name k) = F k := ⟨_, fun _ => rfl⟩
  simp only [hLP, hNM] at hsucc hlen hnl cA GN ⊢
  clear hLP hNM hfin hr
  generalize g.rules.length = rn at *
  generalize g.nonts.length = nn at *
  generalize g.levels.length = ll at *
  generalize g.prods.length = pp at *
  generalize g.start = st at *
  go_enter Tryz.func34, Tryz.ntmps34
  go_wp2_with fail
  clear z0 z1 z2 z3 z4 hW
  refine wp_region_quiet_below (by kernel_rfl) (by kernel_rfl) ?_
  repeat (first | go_big_quiet_step (exact cA.out _ _) | quiet_step (exact cA.out _ _))
  refine wpQuiet_nil ?_
  intro _ hw'
  obtain ⟨⟨dq, osq⟩, hw''⟩ := hw'
  subst hw''
  have hwq := hid (below_regrown W dq osq)
  clear cA y2 yx3 yx2
  go_wp2
  go_loopw [5, 19] (fun x i wr => ∃ k : Nat, k ≤ n ∧ i = .int .i64 (k : Int) ∧ x = .string (LP k) ∧ Hid (Below W.heap.size W wr)) (fun _ i _ => n - (intOf i).toNat)
  case atStart => exact ⟨0, Nat.zero_le _, rfl, rfl, hwq⟩
  case round =>
    obtain ⟨k, hk, rfl, rfl, hbl⟩ := hrel
    have hbw := hid (bl_step hB.out hbl.out)
    have hs1 := hlen.out k hk
    by_cases hlt : k < n
    · have hltz : (k : Int) < (n : Int) := by omega
      have hkl : k < ts.length := by rw [hn.out]; exact hlt
      have hc := hKp.out wr hbw.out k hkl
      have hsk := hsucc.out k hkl
      have hak := hall.out k hkl
      obtain ⟨z0, z1, z2, z3, z4⟩ := hkk.out wr hbl.out
      generalize ts[k] = x at *
      have hs2 := hnl.out x
      have G := hid (GN.out x hak wr hbw.out)
      have q1 : ¬ 9223372036854775807 < 1 + (NM x).size := by omega
      have q2 : ¬ 9223372036854775807 < (LP k).size + (1 + (NM x).size) := by omega
      have hsk := hid hsk
      clear hs1 hs2 hak
      go_wp2_with (go_at_call 35; refine G.out.mono ?_; clear G; rintro e w3 ⟨rfl, hc3⟩; have hc3 := hid (bl_step hbl.out hc3))
      go_roundw
      case rel => exact ⟨k + 1, by omega, by go_num, by rw [hsk.out], hc3⟩
      case measure => simp [intOf]; omega
    · have hltz : ¬ (k : Int) < (n : Int) := by omega
      obtain rfl : k = n := by omega
      have q1 : ¬ 9223372036854775807 < (LP k).size + 1 := by omega
      clear hs1
      go_wp2
      go_ret
      exact ⟨rfl, hbw.out⟩

end Go.Proofs.YtcledgljbmepaaaGreatDoor
