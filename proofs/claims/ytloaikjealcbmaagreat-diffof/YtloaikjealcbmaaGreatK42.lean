/- Layer 13: what was read is sound. Layer 14: the examples stand; the law's own example holds. A grammar that is handed in, opened. DiffTurned: the walk. -/
import Derived.Test.YtloaikjealcbmaaGreatK41
import Derived.Test.YtloaikjealcbmaaGreatK18
import Derived.Test.YtloaikjealcbmaaGreatK14
import Derived.Test.YtloaikjealcbmaaGreatK19
import Derived.Deep.Strs
namespace Go.Proofs.YtloaikjealcbmaaGreat

abbrev LvS (s : Stp) : Prop := s.k = 2 → 1 ≤ s.a ∧ 1 ≤ s.b ∧ s.b ≤ 3
def LaQ (st : RS) : Prop := ∀ s ∈ st.later, LvS s
theorem LaQ.same {a b : RS} (h : LaQ a) (m : SameL a b) : LaQ b := fun s hs => h s (by rw [m.later] at hs; exact hs)
theorem LaQ.thn {st : RS} (h : LaQ st) {s : Stp} (hs : LvS s) : LaQ (st.thn s) := fun x hx => by
 have hx : x ∈ st.later ++ [s] := hx
 rw [List.mem_append, List.mem_singleton] at hx
 rcases hx with hx | rfl
 · exact h x hx
 · exact hs
theorem LaQ.rule {st : RS} (h : LaQ st) : LaQ st.rule := by
 have m : SameL st (st.rule1.tkN.cells.tkS [59]) := (((SameL.rule1 st).trans (SameL.tkN _)).trans (SameL.cells _)).trans (SameL.tkS _ _)
 have g := h.same m
 unfold RS.rule RS.rule2
 refine LaQ.thn ?_ (fun e => by cases e)
 unfold RS.addW
 split <;> exact g
theorem LaQ.lvds {p s : Nat} (hp : 1 ≤ p) (h1 : 1 ≤ s) (h3 : s ≤ 3) : ∀ (n : Nat) (st : RS), LaQ st → LaQ (RS.lvds p s n st)
 | 0, _, h => h
 | n + 1, st, h => by
  rw [RS.lvds]
  split
  · exact LaQ.lvds hp h1 h3 n _ ((h.same (SameL.take _ _)).thn (fun _ => ⟨hp, h1, h3⟩))
  · exact h
theorem LaQ.level {st : RS} (h : LaQ st) (hs : 0 < sdN st.hd.2.2) : LaQ st.level := by
 have h1 : LaQ st.lv1 := h
 have h3 := sdN_le st.hd.2.2
 unfold RS.level
 have h4 : LaQ ((st.lv1.take true).lvd (st.levels + 1) (sdN st.hd.2.2)) := ((h1.same (SameL.take st.lv1 true)).same (SameL.take _ _)).thn (s := ⟨2, (st.lv1.take true).hd, st.levels + 1, sdN st.hd.2.2⟩) (fun _ => ⟨Nat.succ_pos _, hs, h3⟩)
 exact (LaQ.lvds (by omega) hs h3 _ _ h4).same (SameL.take _ _)
theorem LaQ.start {st : RS} (h : LaQ st) : LaQ st.start := by
 have h1 : LaQ st.st1 := h
 unfold RS.start
 exact ((((h1.same (SameL.take _ _)).thn (fun e => by cases e)).same (SameL.take _ _)).same (SameL.take _ _)).thn (fun e => by cases e)
theorem LaQ.syms (pr : Nat) : ∀ (f n : Nat) (st : RS), LaQ st → LaQ (RS.syms pr f n st)
 | 0, _, _, h => h
 | f + 1, n, st, h => by
  rw [RS.syms]
  split
  · exact LaQ.syms pr f (n + 1) _ (((h.same (SameL.full _ _ _)).same (SameL.take _ _)).thn (fun e => by cases e))
  · exact h
theorem LaQ.alt {st : RS} (h : LaQ st) : LaQ st.alt := by
 have h1 : LaQ st.alt1 := by have g := h.same (SameL.full st (decide (st.prods.length = 40) && st.inA) st.hd.2.1); exact g
 unfold RS.alt RS.pct
 split
 · exact (((LaQ.syms _ _ _ _ h1).same (SameL.take _ _)).same (SameL.take _ _)).thn (fun e => by cases e)
 · exact LaQ.syms _ _ _ _ h1
theorem LaQ.alts : ∀ (f : Nat) (st : RS), LaQ st → LaQ (RS.alts f st)
 | 0, _, h => h
 | f + 1, st, h => by
  rw [RS.alts]
  split
  · exact LaQ.alts f _ (h.same (SameL.take _ _)).alt
  · exact h
theorem LaQ.nont {st : RS} (h : LaQ st) : LaQ st.nont := by
 have m : SameL st ((st.tkN.full (decide (st.nonts.length = 16)) st.hd.2.1).tkS [58]) := ((SameL.take _ _).trans (SameL.full _ _ _)).trans (SameL.take _ _)
 have g : LaQ ((((st.tkN.full (decide (st.nonts.length = 16)) st.hd.2.1).tkS [58]).addN st.hd.2.2).addO st.hd) := by have g := h.same m; exact g
 have h0 : LaQ st.nont0 := g.thn (fun e => by cases e)
 exact (LaQ.alts _ _ h0.alt).same (SameL.take _ _)
theorem LaQ.item {st : RS} (h : LaQ st) : LaQ st.item := by
 unfold RS.item
 split
 · exact h.same (SameL.give _ _ (by decide))
 · split
   · exact h.rule
   · split
     · exact h.start
     · split
       · rename_i hs; exact h.level hs
       · exact h.nont
theorem LaQ.items : ∀ (f : Nat) (st : RS), LaQ st → LaQ (RS.items f st)
 | 0, _, h => h
 | f + 1, st, h => by
  rw [RS.items]
  split
  · exact LaQ.items f _ h.item
  · exact h
theorem setL_lev {F : Txt → Ow} : ∀ (l : List Stp) (f : FS), (∀ s ∈ l, LvS s) → (∀ (i : Nat) (x : Int × Int), f.levels[i]? = some x → lvB i x = true) → ∀ (i : Nat) (x : Int × Int), (setL F l f).levels[i]? = some x → lvB i x = true
 | [], _, _, h => h
 | s :: l, f, hs, h => by
  rw [setL]
  split
  · exact h
  · refine setL_lev l _ (fun x hx => hs x (List.mem_cons_of_mem _ hx)) (fun i x hx => ?_)
    have e : ((stpF F s f).1.fail s.w.2.1 (stpF F s f).2).levels = (stpF F s f).1.levels := by
     unfold FS.fail
     split <;> rfl
    rw [e] at hx
    by_cases k2 : s.k = 2
    · obtain ⟨h1, h2, h3⟩ := hs s List.mem_cons_self k2
      have k1 : s.k ≠ 1 := by omega
      unfold stpF at hx
      rw [if_neg k1, if_pos k2] at hx
      split at hx
      · exact h i x hx
      · rename_i ht
        split at hx
        · exact h i x hx
        · have hx : (f.levels.set (F s.w.2.2).2.1 ((s.a : Int), (s.b : Int)))[i]? = some x := hx
          rw [List.getElem?_set] at hx
          split at hx
          · rename_i hi
            split at hx
            · injection hx with hx
              subst hx
              unfold lvB
              have e1 : decide ((0 : Int) < (s.a : Int)) = true := decide_eq_true (by omega)
              have e2 : decide ((0 : Int) < (s.b : Int)) = true := decide_eq_true (by omega)
              have e3 : decide ((s.b : Int) < 4) = true := decide_eq_true (by omega)
              have e4 : decide (i ≠ 0) = true := decide_eq_true (by omega)
              simp only [e1, e2, e3, e4, Bool.and_self, Bool.or_true]
            · cases hx
          · exact h i x hx
    · have e2 : (stpF F s f).1.levels = f.levels := by
       unfold stpF
       rw [if_neg k2]
       repeat (first | rfl | split)
      rw [e2] at hx
      exact h i x hx
theorem setL_start0 {F : Txt → Ow} (hF : ∀ t, (F t).2.2 = 0) : ∀ (l : List Stp) (f : FS), (setL F l f).err = 0 → (setL F l f).start = f.start
 | [], _, _ => rfl
 | s :: l, f, he => by
  obtain ⟨-, h2, h3⟩ := setL_cons he
  rw [h3] at he ⊢
  rw [setL_start0 hF l _ he]
  by_cases k4 : s.k = 4
  · unfold stpF at h2
    have k1 : s.k ≠ 1 := by omega
    have k2 : s.k ≠ 2 := by omega
    have k3 : s.k ≠ 3 := by omega
    rw [if_neg k1, if_neg k2, if_neg k3, if_pos k4] at h2
    dsimp only at h2
    rw [if_pos (hF _)] at h2
    cases h2
  · unfold stpF
    rw [if_neg k4]
    repeat (first | rfl | split)
theorem fnd_le3 (st : RS) (x : Wd) (h : x ∈ st.skips ∨ x ∈ st.terms) : (st.fnd x.2.2).1 ≤ x.2.1 := by
 rcases h with h | h
 · have hy : (x, 0, 0) ∈ st.told := List.mem_append_left _ (List.mem_map.2 ⟨x, h, rfl⟩)
   obtain ⟨o, h1, h2⟩ := ownL_le st.told (fun _ => none) _ hy
   unfold RS.fnd
   rw [h1]
   exact h2
 · exact fnd_le st x (.inl h)
theorem prs_sndG {s : Txt} {g : Gm} (h : prs s = some g) : SndG g := by
 have hR := prs_read h
 obtain ⟨h0, he, h1, rfl⟩ := prs_some h
 have hA := rdS_ia s
 have hG := rdS_gd s h1
 have hI : Inv WdN (rdS s) := rdS_inv s (fun e => by cases e) (wsE_N s)
 have hnil : ∀ {α : Type} {P : α → Prop}, ∀ x ∈ ([] : List α), P x := fun _ h => absurd h List.not_mem_nil
 obtain ⟨rw', g2⟩ := GdE.items (wsE s).length (RS.init (wsE s)) (fun _ => ⟨[], rfl, List.Pairwise.nil, hnil, hnil, hnil, hnil, hnil, hnil⟩) (fun _ => ⟨(wsE_words s).2, hnil, hnil, List.Pairwise.nil, List.Pairwise.nil, hnil, hnil, Nat.zero_le _, Nat.zero_le _, fun _ => Nat.zero_le _⟩) ⟨wsE_N s, hnil, hnil, hnil, hnil, hnil⟩ h1
 have g2 : Gd2 (rdS s) rw' := g2
 have hQ : LaQ (rdS s) := LaQ.items _ _ hnil
 have hall : (prsG s).allN = (rw' ++ (rdS s).nons).map (fun w => w.2.2) := by
  show (rdS s).rules.map Rl.name ++ (rdS s).nonts = _
  rw [List.map_append, g2.eq, hA.nn]
 have hmem : ∀ x ∈ rw' ++ (rdS s).nons, NamT x.2.2 ∧ kwB x.2.2 = false := fun x hx => by
  rcases List.mem_append.1 hx with hx | hx
  · exact g2.nam x hx
  · exact g2.non x hx
 have hat : ∀ x ∈ rw' ++ (rdS s).nons, ((rdS s).fnd x.2.2).1 = x.2.1 := fun x hx => by
  rcases List.mem_append.1 hx with hx | hx
  · obtain ⟨st, hs1, hs2, hs3⟩ := g2.on x hx
    have h5 := setL_once _ _ he st hs1 hs2
    rw [hs3] at h5
    exact Nat.le_antisymm (fnd_le3 _ _ (g2.told x hx)) h5
  · obtain ⟨st, hs1, hs2, hs3⟩ := hA.on x (.inr hx)
    have h5 := setL_once _ _ he st hs1 hs2
    rw [hs3] at h5
    exact Nat.le_antisymm (fnd_le _ _ (.inr hx)) h5
 have hpw : (rw' ++ (rdS s).nons).Pairwise (fun x y => x.2.1 ≠ y.2.1) := by
  rw [List.pairwise_append]
  exact ⟨g2.pw.imp (fun h => by unfold Bef at h; omega), hG.np.imp (fun h => by unfold Bef at h; omega), g2.xn⟩
 refine ⟨hR.rules, hR.nonts, hR.prods, fun r hr => (hR.re r hr).1, fun t ht => ?_, ?_, hR.snd.levels, fun i hi => ?_, fun hn => ?_, hR.snd.start, fun p hp => ?_⟩
 · rw [hall, List.mem_map] at ht
   obtain ⟨x, hx, rfl⟩ := ht
   obtain ⟨n1, n2⟩ := hmem x hx
   exact namB_of n1 n2
 · rw [hall]
   unfold List.Nodup
   rw [List.pairwise_map]
   refine List.Pairwise.imp_of_mem (R := fun x y => x.2.1 ≠ y.2.1) (fun {x y} hx hy hne e => hne ?_) hpw
   rw [← hat x hx, ← hat y hy, e]
 · refine setL_lev (F := (rdS s).fnd) (rdS s).later (rdS s).fs hQ (fun i x hx => ?_) i _ (List.getElem?_eq_getElem hi)
   have hx : (List.replicate ((rdS s).trm + 1) ((0, 0) : Int × Int))[i]? = some x := hx
   rw [List.getElem?_replicate] at hx
   split at hx
   · injection hx with hx
     subst hx
     rfl
   · cases hx
 · have hz : (rdS s).nons.length = 0 := by rw [hA.nlen]; exact hn
   have hF : ∀ t, ((rdS s).fnd t).2.2 = 0 := fun t => by
    have := (fnd_good (rdS s) t).2
    omega
   show (setL (rdS s).fnd (rdS s).later (rdS s).fs).start = 0
   rw [setL_start0 hF _ _ he]
   have hn : (rdS s).nonts.length = 0 := hn
   show (if 0 < (rdS s).nonts.length then _ else _) = _
   rw [if_neg (by omega)]
 · obtain ⟨p1, p2, p3, p4, p5, p6⟩ := hR.snd.prods p hp
   unfold pdB
   simp only [Bool.and_eq_true, decide_eq_true_eq, List.all_eq_true]
   exact ⟨⟨⟨⟨⟨p1, p2⟩, p5⟩, p3⟩, p4⟩, p6⟩

end Go.Proofs.YtloaikjealcbmaaGreat
namespace Go.Proofs.YtloaikjealcbmaaGreat
open Go.RowKit Go.Maps Go.Sort

theorem exC_words : (wrdA exC).2.2 = 0 := by decide +kernel
theorem exC_err : (rdS exC).settle.err = 0 := by decide +kernel
theorem exD_words : (wrdA exD).2.2 = 0 := by decide +kernel
theorem exD_err : (rdS exD).settle.err = 0 := by decide +kernel
theorem exC_prs : prs exC = some (prsG exC) := prs_of exC_words exC_err
theorem exD_prs : prs exD = some (prsG exD) := prs_of exD_words exD_err
theorem ex_kept : dfPrs (txtsG (prsG exC)) (txtsG (prsG exD)) = [(1, 0)] := by decide +kernel
theorem ex_gone : dfGone (txtsG (prsG exC)) (txtsG (prsG exD)) = [0] := by decide +kernel
theorem ex_new : dfNew (txtsG (prsG exC)) (txtsG (prsG exD)) = [1] := by decide +kernel
theorem ex_rules : (prsG exC).rules = (prsG exD).rules := by kernel_rfl
theorem exOK14 : ExOK14 prs := ⟨prsG exC, prsG exD, exC_prs, exD_prs, prs_sndG exC_prs, prs_sndG exD_prs, ex_kept, ex_gone, ex_new, by
 show (!rulB (prsG exC).rules (prsG exD).rules) = false
 rw [rulB_yes ex_rules]
 rfl⟩
theorem wkOK14P : WkOK14 := wkOK14 prsOK exOK14 dfOK

end Go.Proofs.YtloaikjealcbmaaGreat
namespace Go.Proofs.YtloaikjealcbmaaGreat
open Go.ChangeShapes Go.WideShapes Go.ChangeAt Go.RowKit

theorem strT_of (s : ByteArray) : s = strT s.data.toList := by obtain ⟨⟨l⟩⟩ := s; rfl
set_option maxRecDepth 20000 in
theorem lst_of_trod {α : Type} [Inhabited α] {sz : Nat} {R : World → Nat → Nat → α → Prop} {t e : TypeId} (ht : Tryz.prog.underlying t = some (.slice e)) (hc : Tryz.prog.cellsOf e = sz) (hz : 0 < sz)
 {H : Type} {enc : TypeId × Value → H} {W : World}
 (hel : ∀ (fuel : Nat) (cs : List Value) (x : DataW H × List MemPlace) (b o : Nat), DataW.trod enc Tryz.prog W 0 (fun _ => true) true fuel e cs = some x → cs.length = sz → (∀ j, j < sz → W.cell? ⟨b, o + j, none⟩ = cs[j]?) → ∃ y : α, R W b o y)
 {fuel : Nat} {cs : List Value} {x : DataW H × List MemPlace} (hf : DataW.trod enc Tryz.prog W 0 (fun _ => true) true fuel t cs = some x) :
 ∃ (l : List α) (v : Value), cs = [v] ∧ Lst sz R W v l ∧ l.length ≤ 9223372036854775807 := by
 rcases Deep.open_slice ht hf with ⟨hcs, _⟩ | ⟨a, len, cap, m, n, D, Pl, hcs, _, hl, hm, hmm, _, hx⟩
 · exact ⟨[], _, hcs, Lst.nil _, by simp⟩
 · have hm' : m = cap := by simpa using hmm
   unfold maxLen at hm
   rcases Nat.eq_zero_or_pos len with h0 | h0
   · subst h0
     exact ⟨[], _, hcs, ⟨some a, cap, rfl, Nat.zero_le _, fun h => (by cases h), fun j hj => absurd hj (Nat.not_lt_zero _)⟩, by simp⟩
   have hpl : ∃ b o, a = ⟨b, o, none⟩ := by
    obtain ⟨cs', hc', ht'⟩ := hx 0 (by omega)
    rw [hc] at hc'
    have hcl := (World.cells?_some hc').2.1
    have hh := (World.cells?_some hc').2.2 0 (by omega)
    rw [List.getElem?_eq_getElem (by omega)] at hh
    obtain ⟨b, off, spot⟩ := a
    have hspot : spot = none := by simpa [Addr.add] using World.cell?_spot hh
    exact ⟨b, off, by rw [hspot]⟩
   obtain ⟨b, off, rfl⟩ := hpl
   have hone : ∀ i, i < len → ∃ y : α, b < W.heap.size ∧ R W b (off + i * sz) y := by
    intro i hi
    obtain ⟨cs', hc', ht'⟩ := hx i (by omega)
    rw [hc] at hc'
    have hcl := (World.cells?_some hc').2.1
    have hh := (World.cells?_some hc').2.2
    simp only [Go.WideShapes.add_plain] at hh
    obtain ⟨y, hy⟩ := hel _ _ _ b (off + i * sz) ht' hcl hh
    have h00 := hh 0 hz
    rw [List.getElem?_eq_getElem (by omega)] at h00
    exact ⟨y, World.block_lt_of_cell? _ _ h00, hy⟩
   obtain ⟨E, hE⟩ := Deep.choose_lt hone
   refine ⟨(List.range len).map E, _, by rw [hcs], ⟨some ⟨b, off, none⟩, cap, by simp, by simp; omega, fun h => (by cases h), fun j hj => ?_⟩, by simp; omega⟩
   have hj' : j < len := by simpa using hj
   refine ⟨b, off, rfl, (hE j hj').1, ?_⟩
   simp only [List.getElem_map, List.getElem_range]
   exact (hE j hj').2
instance : Inhabited Rl := ⟨⟨[], [], false⟩⟩
instance : Inhabited Pd := ⟨⟨0, [], 0⟩⟩
set_option maxRecDepth 20000 in
theorem Tryz.cellsOfSt : Tryz.prog.cellsOf 9 = 1 := by kernel_rfl
set_option maxRecDepth 20000 in
theorem Tryz.cellsOfBo : Tryz.prog.cellsOf 4 = 1 := by kernel_rfl
set_option maxRecDepth 20000 in
theorem Tryz.cellsOfRl : Tryz.prog.cellsOf 48 = 3 := by kernel_rfl
set_option maxRecDepth 20000 in
theorem Tryz.cellsOfLv : Tryz.prog.cellsOf 54 = 2 := by kernel_rfl
set_option maxRecDepth 20000 in
theorem Tryz.cellsOfPd : Tryz.prog.cellsOf 50 = 3 := by kernel_rfl
set_option maxRecDepth 20000 in
theorem Tryz.cellsOfSR : Tryz.prog.cellsOf 22 = 1 := by kernel_rfl
set_option maxRecDepth 20000 in
theorem Tryz.cellsOfST : Tryz.prog.cellsOf 23 = 1 := by kernel_rfl
set_option maxRecDepth 20000 in
theorem Tryz.cellsOfSL : Tryz.prog.cellsOf 24 = 1 := by kernel_rfl
set_option maxRecDepth 20000 in
theorem Tryz.cellsOfSP : Tryz.prog.cellsOf 25 = 1 := by kernel_rfl
set_option maxRecDepth 20000 in
theorem Tryz.cellsOfGm : Tryz.prog.cellsOf 27 = 5 := by kernel_rfl
variable {H : Type} {enc : TypeId × Value → H} {W : World}
set_option maxRecDepth 20000 in
theorem rl_el (fuel : Nat) (cs : List Value) (x : DataW H × List MemPlace) (b o : Nat) (hf : DataW.trod enc Tryz.prog W 0 (fun _ => true) true fuel 48 cs = some x) (hl : cs.length = 3) (hc : ∀ j, j < 3 → W.cell? ⟨b, o + j, none⟩ = cs[j]?) : ∃ y : Rl, RuleAt W b o y := by
 obtain ⟨y0, y1, y2, m, _, _, t0, t1, t2⟩ := Deep.trod_struct3 Tryz.underlying48 hf
 match cs, hl with
 | [c0, c1, c2], _ =>
  obtain ⟨s, e0, _, _⟩ := DataW.trod_string Tryz.underlying9 t0
  obtain ⟨l, v, e1, hC⟩ := cels_of_trod t1
  obtain ⟨k, e2, _⟩ := DataW.trod_bool Tryz.underlying4 t2
  simp [Tryz.cellsOfSt, Tryz.cellsOfBo, Tryz.cellsOf46] at e0 e1 e2
  subst e0 e1 e2
  refine ⟨⟨s.data.toList, l, k⟩, c1, ?_, hc 1 (by omega), hc 2 (by omega), hC⟩
  rw [← strT_of]
  exact hc 0 (by omega)
set_option maxRecDepth 20000 in
theorem tx_el (fuel : Nat) (cs : List Value) (x : DataW H × List MemPlace) (b o : Nat) (hf : DataW.trod enc Tryz.prog W 0 (fun _ => true) true fuel 9 cs = some x) (hl : cs.length = 1) (hc : ∀ j, j < 1 → W.cell? ⟨b, o + j, none⟩ = cs[j]?) : ∃ y : Txt, TxtAt W b o y := by
 obtain ⟨s, e0, _, _⟩ := DataW.trod_string Tryz.underlying9 hf
 subst e0
 refine ⟨s.data.toList, ?_⟩
 unfold TxtAt
 rw [← strT_of]
 exact hc 0 (by omega)
set_option maxRecDepth 20000 in
theorem lv_el (fuel : Nat) (cs : List Value) (x : DataW H × List MemPlace) (b o : Nat) (hf : DataW.trod enc Tryz.prog W 0 (fun _ => true) true fuel 54 cs = some x) (hl : cs.length = 2) (hc : ∀ j, j < 2 → W.cell? ⟨b, o + j, none⟩ = cs[j]?) : ∃ y : Int × Int, LevAt W b o y := by
 obtain ⟨y0, y1, m, _, _, t0, t1⟩ := trod_struct2 Tryz.underlying54 hf
 match cs, hl with
 | [c0, c1], _ =>
  obtain ⟨p, e0, _, _⟩ := DataW.trod_int Tryz.underlying3 t0
  obtain ⟨q, e1, _, _⟩ := DataW.trod_int Tryz.underlying3 t1
  simp [Tryz.cellsOf3] at e0 e1
  subst e0 e1
  exact ⟨(p, q), hc 0 (by omega), hc 1 (by omega)⟩
set_option maxRecDepth 20000 in
theorem pd_el (fuel : Nat) (cs : List Value) (x : DataW H × List MemPlace) (b o : Nat) (hf : DataW.trod enc Tryz.prog W 0 (fun _ => true) true fuel 50 cs = some x) (hl : cs.length = 3) (hc : ∀ j, j < 3 → W.cell? ⟨b, o + j, none⟩ = cs[j]?) : ∃ y : Pd, ProdAt W b o y := by
 obtain ⟨y0, y1, y2, m, _, _, t0, t1, t2⟩ := Deep.trod_struct3 Tryz.underlying50 hf
 match cs, hl with
 | [c0, c1, c2], _ =>
  obtain ⟨p, e0, _, _⟩ := DataW.trod_int Tryz.underlying3 t0
  obtain ⟨l, v, e1, hC, _⟩ := nums_of_trod t1
  obtain ⟨q, e2, _, _⟩ := DataW.trod_int Tryz.underlying3 t2
  simp [Tryz.cellsOf3, Tryz.cellsOf32] at e0 e1 e2
  subst e0 e1 e2
  exact ⟨⟨p, l, q⟩, c1, hc 0 (by omega), hc 1 (by omega), hc 2 (by omega), hC⟩
set_option maxRecDepth 20000 in
theorem open_gram {v : Value} {d : DataW H} {q : List MemPlace} {base : Nat} (hv : Value.okWide Tryz.prog W .any base 27 v) (h : DataW.Trod enc Tryz.prog W 0 (fun _ => true) true 27 v d q) :
 ∃ (g : Gm) (rv nv lv pv : Value), v = .agg #[rv, nv, lv, pv, .int .i64 g.start] ∧ GmV W rv nv lv pv g := by
 obtain ⟨cs, rfl, hcs⟩ := okWide_struct Tryz.underlying27 hv
 obtain ⟨fuel, hf⟩ := h
 rw [Tryz.cellsOfGm] at hcs
 obtain ⟨xs, n, _, _, hl, hlen, hfs⟩ := DataW.trod_struct Tryz.underlying27 hf
 have hce : Value.cells (.agg cs) = cs := rfl
 rw [hce] at hfs
 obtain ⟨cl⟩ := cs
 match cl, hcs with
 | [c0, c1, c2, c3, c4], _ =>
  match xs, hlen with
  | [y0, y1, y2, y3, y4], _ =>
   have t0 : DataW.trod enc Tryz.prog W 0 (fun _ => true) true n 22 [c0] = some y0 := by
    have h := hfs 0 _ rfl
    simpa [Tryz.cellsOfSR] using h
   have t1 : DataW.trod enc Tryz.prog W 0 (fun _ => true) true n 23 [c1] = some y1 := by
    have h := hfs 1 _ rfl
    simpa [Tryz.cellsOfST] using h
   have t2 : DataW.trod enc Tryz.prog W 0 (fun _ => true) true n 24 [c2] = some y2 := by
    have h := hfs 2 _ rfl
    simpa [Tryz.cellsOfSL] using h
   have t3 : DataW.trod enc Tryz.prog W 0 (fun _ => true) true n 25 [c3] = some y3 := by
    have h := hfs 3 _ rfl
    simpa [Tryz.cellsOfSP] using h
   have t4 : DataW.trod enc Tryz.prog W 0 (fun _ => true) true n 3 [c4] = some y4 := by
    have h := hfs 4 _ rfl
    simpa [Tryz.cellsOf3] using h
   obtain ⟨R, v0, e0, hR, _⟩ := lst_of_trod Tryz.underlying22 Tryz.cellsOfRl (by omega) rl_el t0
   obtain ⟨N, v1, e1, hN, _⟩ := lst_of_trod Tryz.underlying23 Tryz.cellsOfSt (by omega) tx_el t1
   obtain ⟨L, v2, e2, hL, _⟩ := lst_of_trod Tryz.underlying24 Tryz.cellsOfLv (by omega) lv_el t2
   obtain ⟨P, v3, e3, hP, _⟩ := lst_of_trod Tryz.underlying25 Tryz.cellsOfPd (by omega) pd_el t3
   obtain ⟨s, e4, _, _⟩ := DataW.trod_int Tryz.underlying3 t4
   simp only [List.cons.injEq, and_true] at e0 e1 e2 e3 e4
   subst e0 e1 e2 e3 e4
   exact ⟨⟨R, N, L, P, s⟩, c0, c1, c2, c3, rfl, ⟨hR, hN, hL, hP⟩⟩

end Go.Proofs.YtloaikjealcbmaaGreat
namespace Go.Proofs.YtloaikjealcbmaaGreat
open Go.RowKit Go.Maps Go.Sort

end Go.Proofs.YtloaikjealcbmaaGreat
