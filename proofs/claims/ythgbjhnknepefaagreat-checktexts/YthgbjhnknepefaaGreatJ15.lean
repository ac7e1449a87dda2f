/- Layer 13: what is sound. Layer 13: what is reached, what ends; the document's rounds find just that. Marks: what a call of the function that marks leaves. The reference: Letter, Reserved, named. -/
import Derived.Test.YthgbjhnknepefaaGreatJ14
import Derived.Test.YthgbjhnknepefaaGreatJ11
namespace Go.Proofs.YthgbjhnknepefaaGreat

/-- a name -/
structure NamT (s : Txt) : Prop where
  len : s.length ≤ 16
  head : ∃ c r, s = c :: r ∧ letB c.toNat = true
  all : ∀ c ∈ s, (letB c.toNat || digB c.toNat) = true
def namB (s : Txt) : Bool := decide (s.length ≤ 16) && (match s with | [] => false | c :: _ => letB c.toNat) && s.all (fun c => letB c.toNat || digB c.toNat) && !kwB s
theorem namB_of {s : Txt} (h : NamT s) (hk : kwB s = false) : namB s = true := by
  obtain ⟨h1, ⟨c, r, rfl, h2⟩, h3⟩ := h
  unfold namB
  simp only [Bool.and_eq_true, decide_eq_true_eq, Bool.not_eq_true', List.all_eq_true]
  exact ⟨⟨⟨h1, h2⟩, h3⟩, hk⟩
def Gm.allN (g : Gm) : List Txt := g.rules.map Rl.name ++ g.nonts
def lvB (i : Nat) (l : Int × Int) : Bool := (decide (l.1 = 0) && decide (l.2 = 0)) || (decide (0 < l.1) && decide (0 < l.2) && decide (l.2 < 4) && decide (i ≠ 0))
def pdB (g : Gm) (p : Pd) : Bool := decide ((g.terms : Int) < p.left) && decide (p.left ≤ (g.all : Int)) && decide (p.right.length ≤ 8) && decide (0 ≤ p.prec) && decide (p.prec ≤ (g.terms : Int)) && p.right.all (fun k => decide (1 ≤ k) && decide (k ≤ (g.all : Int)))
structure SndG (g : Gm) : Prop where
  rules : g.rules.length ≤ 16
  nonts : g.nonts.length ≤ 16
  prods : g.prods.length ≤ 40
  right : ∀ r ∈ g.rules, rightB r.re = true
  named : ∀ t ∈ g.allN, namB t = true
  once : g.allN.Nodup
  levels : g.levels.length = g.terms + 1
  lev : ∀ i (h : i < g.levels.length), lvB i g.levels[i] = true
  none : g.nonts.length = 0 → g.start = 0
  start : 0 < g.nonts.length → (g.terms : Int) < g.start ∧ g.start ≤ (g.all : Int)
  prod : ∀ p ∈ g.prods, pdB g p = true

end Go.Proofs.YthgbjhnknepefaaGreat
namespace Go.Proofs.YthgbjhnknepefaaGreat

inductive Rch (g : Gm) : Int → Prop
  | start : 0 < g.start → Rch g g.start
  | step (p : Pd) (n : Int) : p ∈ g.prods → Rch g p.left → n ∈ p.right → (g.terms : Int) < n → Rch g n
inductive Ends (g : Gm) : Int → Prop
  | prod (p : Pd) : p ∈ g.prods → (∀ n ∈ p.right, (g.terms : Int) < n → Ends g n) → Ends g p.left
/-- one symbol, one production, one round -/
def rcS (tm : Nat) (l : Int) (out : List Int) (n : Int) : List Int := if (tm : Int) < n ∧ l ∈ out ∧ n ∉ out then out ++ [n] else out
def rcP (tm : Nat) (out : List Int) (p : Pd) : List Int := p.right.foldl (rcS tm p.left) out
def rcR (g : Gm) (out : List Int) : List Int := g.prods.foldl (rcP g.terms) out
def rcN (g : Gm) : Nat → List Int
  | 0 => if 0 < g.start then [g.start] else []
  | k + 1 => rcR g (rcN g k)
theorem rcS_sub (tm : Nat) (l : Int) (out : List Int) (n : Int) : ∃ r, rcS tm l out n = out ++ r := by
  unfold rcS
  split
  · exact ⟨_, rfl⟩
  · exact ⟨[], by simp⟩
theorem fold_sub {α : Type} {f : List Int → α → List Int} (hf : ∀ o x, ∃ r, f o x = o ++ r) : ∀ (l : List α) (o : List Int), ∃ r, l.foldl f o = o ++ r
  | [], o => ⟨[], by simp⟩
  | x :: l, o => by
    obtain ⟨r1, h1⟩ := hf o x
    obtain ⟨r2, h2⟩ := fold_sub hf l (f o x)
    refine ⟨r1 ++ r2, ?_⟩
    rw [List.foldl_cons, h2, h1, List.append_assoc]
theorem rcP_sub (tm : Nat) (out : List Int) (p : Pd) : ∃ r, rcP tm out p = out ++ r := fold_sub (rcS_sub tm p.left) p.right out
theorem rcR_sub (g : Gm) (out : List Int) : ∃ r, rcR g out = out ++ r := fold_sub (rcP_sub g.terms) g.prods out
/-- what a fold keeps -/
theorem fold_keep {α : Type} {f : List Int → α → List Int} {P : List Int → Prop} : ∀ (l : List α) (o : List Int), (∀ o x, x ∈ l → P o → P (f o x)) → P o → P (l.foldl f o)
  | [], _, _, h => h
  | x :: l, o, hf, h => fold_keep l _ (fun o' y hy => hf o' y (List.mem_cons_of_mem _ hy)) (hf o x List.mem_cons_self h)
/-- where a fold stands still, each of its steps does -/
theorem fold_still {α : Type} {f : List Int → α → List Int} (hf : ∀ o x, ∃ r, f o x = o ++ r) : ∀ (l : List α) (o : List Int), l.foldl f o = o → ∀ x ∈ l, f o x = o
  | [], _, _, _, h => absurd h List.not_mem_nil
  | x :: l, o, h, y, hy => by
    rw [List.foldl_cons] at h
    obtain ⟨r1, h1⟩ := hf o x
    obtain ⟨r2, h2⟩ := fold_sub hf l (f o x)
    have hr1 : r1 = [] := by
      rw [h2, h1, List.append_assoc] at h
      have : (r1 ++ r2) = [] := by
        have := congrArg List.length h
        rw [List.length_append] at this
        exact List.eq_nil_of_length_eq_zero (by omega)
      exact (List.append_eq_nil_iff.1 this).1
    have hx : f o x = o := by rw [h1, hr1, List.append_nil]
    rcases List.mem_cons.1 hy with rfl | hy
    · exact hx
    · rw [hx] at h
      exact fold_still hf l o h y hy
/-- good so far: reached, each once -/
def RcI (g : Gm) (out : List Int) : Prop := (∀ n ∈ out, Rch g n) ∧ out.Nodup
theorem RcI.sym {g : Gm} {o : List Int} (ho : RcI g o) {p : Pd} (hp : p ∈ g.prods) {n : Int} (hn : n ∈ p.right) : RcI g (rcS g.terms p.left o n) := by
  unfold rcS
  split
  · rename_i hc
    refine ⟨fun m hm => ?_, ?_⟩
    · rw [List.mem_append, List.mem_singleton] at hm
      rcases hm with hm | rfl
      · exact ho.1 m hm
      · exact Rch.step p m hp (ho.1 _ hc.2.1) hn hc.1
    · rw [List.nodup_append]
      refine ⟨ho.2, List.pairwise_singleton _ _, fun a ha b hb => ?_⟩
      rw [List.mem_singleton] at hb
      subst hb
      exact fun e => hc.2.2 (e ▸ ha)
  · exact ho
theorem RcI.round {g : Gm} {out : List Int} (h : RcI g out) : RcI g (rcR g out) := by
  refine fold_keep (P := RcI g) g.prods out (fun o p hp ho => ?_) h
  refine fold_keep (P := RcI g) p.right o (fun o n hn ho => ?_) ho
  exact ho.sym hp hn
theorem rcN_good (g : Gm) : ∀ k, RcI g (rcN g k)
  | 0 => by
    unfold rcN
    split
    · rename_i h
      exact ⟨fun n hn => by rw [List.mem_singleton] at hn; subst hn; exact Rch.start h, List.pairwise_singleton _ _⟩
    · exact ⟨fun n hn => absurd hn List.not_mem_nil, List.nodup_nil⟩
  | k + 1 => (rcN_good g k).round
theorem rcN_start {g : Gm} (h : 0 < g.start) : ∀ k, g.start ∈ rcN g k
  | 0 => by unfold rcN; rw [if_pos h]; exact List.mem_singleton.2 rfl
  | k + 1 => by
    obtain ⟨r, hr⟩ := rcR_sub g (rcN g k)
    show g.start ∈ rcR g (rcN g k)
    rw [hr]
    exact List.mem_append_left _ (rcN_start h k)
theorem rc_closed {g : Gm} {out : List Int} (h : rcR g out = out) {p : Pd} (hp : p ∈ g.prods) (hl : p.left ∈ out) {n : Int} (hn : n ∈ p.right) (ht : (g.terms : Int) < n) : n ∈ out := by
  have h1 := fold_still (rcP_sub g.terms) g.prods out h p hp
  have h2 := fold_still (rcS_sub g.terms p.left) p.right out h1 n hn
  unfold rcS at h2
  split at h2
  · have := congrArg List.length h2
    rw [List.length_append, List.length_singleton] at this
    omega
  · rename_i hc
    exact Decidable.byContradiction fun hno => hc ⟨ht, hl, hno⟩
theorem rc_all {g : Gm} {out : List Int} (h : rcR g out = out) (hs : 0 < g.start → g.start ∈ out) {n : Int} (hn : Rch g n) : n ∈ out := by
  induction hn with
  | start h0 => exact hs h0
  | step p m hp _ hm ht ih => exact rc_closed h hp ih hm ht
theorem len_parts (p : Int → Bool) : ∀ l : List Int, l.length = (l.filter p).length + (l.filter fun n => !p n).length
  | [] => rfl
  | x :: l => by
    have := len_parts p l
    rw [List.filter_cons, List.filter_cons]
    cases h : p x
    · simp only [Bool.false_eq_true, if_false, Bool.not_false, if_true, List.length_cons]
      omega
    · simp only [if_true, Bool.not_true, Bool.false_eq_true, if_false, List.length_cons]
      omega
/-- lists of different numbers of a stretch are no longer than it -/
theorem nodup_le : ∀ (N : Nat) (l : List Int) (a : Int), l.Nodup → (∀ n ∈ l, a < n ∧ n ≤ a + (N : Int)) → l.length ≤ N
  | 0, l, a, _, h => by
    cases l with
    | nil => exact Nat.le_refl _
    | cons x r => have := h x List.mem_cons_self; omega
  | N + 1, l, a, hd, h => by
    have h1 := nodup_le N (l.filter (fun n => decide (n ≠ a + ((N + 1 : Nat) : Int)))) a (hd.sublist List.filter_sublist) (fun n hn => by
      rw [List.mem_filter, decide_eq_true_eq] at hn
      have := h n hn.1
      omega)
    have h2 : l.length ≤ (l.filter (fun n => decide (n ≠ a + ((N + 1 : Nat) : Int)))).length + 1 := by
      have hc : (l.filter (fun n => !decide (n ≠ a + ((N + 1 : Nat) : Int)))).length ≤ 1 := by
        have hdd := hd.sublist (List.filter_sublist (p := fun n => !decide (n ≠ a + ((N + 1 : Nat) : Int))) (l := l))
        have hall : ∀ n ∈ l.filter (fun n => !decide (n ≠ a + ((N + 1 : Nat) : Int))), n = a + ((N + 1 : Nat) : Int) := fun n hn => by
          have := (List.mem_filter.1 hn).2
          simpa using this
        generalize l.filter (fun n => !decide (n ≠ a + ((N + 1 : Nat) : Int))) = q at hdd hall
        match q, hdd, hall with
        | [], _, _ => exact Nat.zero_le _
        | [_], _, _ => exact Nat.le_refl _
        | x :: y :: r, hdd, hall =>
          have e1 := hall x List.mem_cons_self
          have e2 := hall y (List.mem_cons_of_mem _ List.mem_cons_self)
          have := (List.nodup_cons.1 hdd).1
          exact absurd (by rw [e1, ← e2]; exact List.mem_cons_self) this
      have hs := len_parts (fun n => decide (n ≠ a + ((N + 1 : Nat) : Int))) l
      omega
    omega
theorem Rch.range {g : Gm} (hg : SndG g) {n : Int} (h : Rch g n) : (g.terms : Int) < n ∧ n ≤ (g.all : Int) := by
  cases h with
  | start h0 =>
    rcases Nat.eq_zero_or_pos g.nonts.length with hz | hz
    · have := hg.none hz; omega
    · exact hg.start hz
  | step p m hp _ hm ht =>
    have := hg.prod p hp
    unfold pdB at this
    simp only [Bool.and_eq_true, decide_eq_true_eq, List.all_eq_true] at this
    exact ⟨ht, (this.2 n hm).2⟩
theorem rcN_len {g : Gm} (hg : SndG g) (k : Nat) : (rcN g k).length ≤ g.nonts.length := by
  obtain ⟨h1, h2⟩ := rcN_good g k
  refine nodup_le g.nonts.length _ (g.terms : Int) h2 (fun n hn => ?_)
  have := (h1 n hn).range hg
  unfold Gm.all at this
  omega
theorem rcN_grow {g : Gm} : ∀ k, rcN g (k + 1) = rcN g k ∨ k + 1 ≤ (rcN g (k + 1)).length
  | 0 => by
    obtain ⟨r, hr⟩ := rcR_sub g (rcN g 0)
    show rcR g (rcN g 0) = rcN g 0 ∨ 1 ≤ (rcR g (rcN g 0)).length
    rw [hr, List.length_append]
    cases r with
    | nil => exact .inl (List.append_nil _)
    | cons x r => exact .inr (by rw [List.length_cons]; omega)
  | k + 1 => by
    rcases rcN_grow k with h | h
    · left
      show rcR g (rcN g (k + 1)) = rcN g (k + 1)
      rw [h]
      exact h
    · obtain ⟨r, hr⟩ := rcR_sub g (rcN g (k + 1))
      show rcR g (rcN g (k + 1)) = rcN g (k + 1) ∨ k + 1 + 1 ≤ (rcR g (rcN g (k + 1))).length
      rw [hr, List.length_append]
      cases r with
      | nil => exact .inl (List.append_nil _)
      | cons x r => exact .inr (by rw [List.length_cons]; omega)
/-- the document's rounds -/
theorem rcN_all {g : Gm} (hg : SndG g) (n : Int) : n ∈ rcN g (g.nonts.length + 1) ↔ Rch g n := by
  refine ⟨fun h => (rcN_good g _).1 n h, fun h => ?_⟩
  have hst : rcR g (rcN g (g.nonts.length + 1)) = rcN g (g.nonts.length + 1) := by
    rcases rcN_grow (g := g) g.nonts.length with h1 | h1
    · show rcR g (rcN g (g.nonts.length + 1)) = _
      rw [h1]
      exact h1
    · have := rcN_len hg (g.nonts.length + 1)
      omega
  exact rc_all hst (fun h0 => rcN_start h0 _) h

/-- likewise, what ends -/
def enP (tm : Nat) (out : List Int) (p : Pd) : List Int := if (∀ n ∈ p.right, n ≤ (tm : Int) ∨ n ∈ out) ∧ p.left ∉ out then out ++ [p.left] else out
def enR (g : Gm) (out : List Int) : List Int := g.prods.foldl (enP g.terms) out
def enN (g : Gm) : Nat → List Int
  | 0 => []
  | k + 1 => enR g (enN g k)
theorem enP_sub (tm : Nat) (out : List Int) (p : Pd) : ∃ r, enP tm out p = out ++ r := by
  unfold enP
  split
  · exact ⟨_, rfl⟩
  · exact ⟨[], by simp⟩
theorem enR_sub (g : Gm) (out : List Int) : ∃ r, enR g out = out ++ r := fold_sub (enP_sub g.terms) g.prods out
def EnI (g : Gm) (out : List Int) : Prop := (∀ n ∈ out, Ends g n) ∧ out.Nodup
theorem EnI.round {g : Gm} {out : List Int} (h : EnI g out) : EnI g (enR g out) := by
  refine fold_keep (P := EnI g) g.prods out (fun o p hp ho => ?_) h
  unfold enP
  split
  · rename_i hc
    refine ⟨fun m hm => ?_, ?_⟩
    · rw [List.mem_append, List.mem_singleton] at hm
      rcases hm with hm | rfl
      · exact ho.1 m hm
      · refine Ends.prod p hp (fun n hn ht => ?_)
        rcases hc.1 n hn with h1 | h1
        · omega
        · exact ho.1 n h1
    · rw [List.nodup_append]
      refine ⟨ho.2, List.pairwise_singleton _ _, fun a ha b hb => ?_⟩
      rw [List.mem_singleton] at hb
      subst hb
      exact fun e => hc.2 (e ▸ ha)
  · exact ho
theorem enN_good (g : Gm) : ∀ k, EnI g (enN g k)
  | 0 => ⟨fun _ hn => absurd hn List.not_mem_nil, List.nodup_nil⟩
  | k + 1 => (enN_good g k).round
theorem en_closed {g : Gm} {out : List Int} (h : enR g out = out) {p : Pd} (hp : p ∈ g.prods) (hn : ∀ n ∈ p.right, (g.terms : Int) < n → n ∈ out) : p.left ∈ out := by
  have h1 := fold_still (enP_sub g.terms) g.prods out h p hp
  unfold enP at h1
  split at h1
  · have := congrArg List.length h1
    rw [List.length_append, List.length_singleton] at this
    omega
  · rename_i hc
    refine Decidable.byContradiction fun hno => hc ⟨fun n hm => ?_, hno⟩
    by_cases ht : n ≤ (g.terms : Int)
    · exact .inl ht
    · exact .inr (hn n hm (by omega))
theorem en_all {g : Gm} {out : List Int} (h : enR g out = out) {n : Int} (hn : Ends g n) : n ∈ out := by
  induction hn with
  | prod p hp _ ih => exact en_closed h hp ih
theorem Ends.range {g : Gm} (hg : SndG g) {n : Int} (h : Ends g n) : (g.terms : Int) < n ∧ n ≤ (g.all : Int) := by
  cases h with
  | prod p hp _ =>
    have := hg.prod p hp
    unfold pdB at this
    simp only [Bool.and_eq_true, decide_eq_true_eq, List.all_eq_true] at this
    exact ⟨this.1.1.1.1.1, this.1.1.1.1.2⟩
theorem enN_len {g : Gm} (hg : SndG g) (k : Nat) : (enN g k).length ≤ g.nonts.length := by
  obtain ⟨h1, h2⟩ := enN_good g k
  refine nodup_le g.nonts.length _ (g.terms : Int) h2 (fun n hn => ?_)
  have := (h1 n hn).range hg
  unfold Gm.all at this
  omega
theorem enN_grow {g : Gm} : ∀ k, enN g (k + 1) = enN g k ∨ k + 1 ≤ (enN g (k + 1)).length
  | 0 => by
    obtain ⟨r, hr⟩ := enR_sub g (enN g 0)
    show enR g (enN g 0) = enN g 0 ∨ 1 ≤ (enR g (enN g 0)).length
    rw [hr, List.length_append]
    cases r with
    | nil => exact .inl (List.append_nil _)
    | cons x r => exact .inr (by rw [List.length_cons]; omega)
  | k + 1 => by
    rcases enN_grow k with h | h
    · left
      show enR g (enN g (k + 1)) = enN g (k + 1)
      rw [h]
      exact h
    · obtain ⟨r, hr⟩ := enR_sub g (enN g (k + 1))
      show enR g (enN g (k + 1)) = enN g (k + 1) ∨ k + 1 + 1 ≤ (enR g (enN g (k + 1))).length
      rw [hr, List.length_append]
      cases r with
      | nil => exact .inl (List.append_nil _)
      | cons x r => exact .inr (by rw [List.length_cons]; omega)
theorem enN_all {g : Gm} (hg : SndG g) (n : Int) : n ∈ enN g (g.nonts.length + 1) ↔ Ends g n := by
  refine ⟨fun h => (enN_good g _).1 n h, fun h => ?_⟩
  have hst : enR g (enN g (g.nonts.length + 1)) = enN g (g.nonts.length + 1) := by
    rcases enN_grow (g := g) g.nonts.length with h1 | h1
    · show enR g (enN g (g.nonts.length + 1)) = _
      rw [h1]
      exact h1
    · have := enN_len hg (g.nonts.length + 1)
      omega
  exact en_all hst h

end Go.Proofs.YthgbjhnknepefaaGreat
namespace Go.Proofs.YthgbjhnknepefaaGreat

/-- a nonterminal that has a mark -/
def Mrk (tm : Nat) (L : List Bool) (n : Int) : Prop := (tm : Int) < n ∧ L[(n - (tm : Int) - 1).toNat]? = some true
theorem mrk_set {tm : Nat} {L : List Bool} {s : Int} (hs : (tm : Int) < s) (hl : (s - (tm : Int) - 1).toNat < L.length) (n : Int) : Mrk tm (L.set (s - (tm : Int) - 1).toNat true) n ↔ n = s ∨ Mrk tm L n := by
  unfold Mrk
  by_cases e : n = s
  · subst e
    exact ⟨fun _ => .inl rfl, fun _ => ⟨hs, by rw [List.getElem?_set_self hl]⟩⟩
  · by_cases hn : (tm : Int) < n
    · have : (s - (tm : Int) - 1).toNat ≠ (n - (tm : Int) - 1).toNat := by omega
      rw [List.getElem?_set_ne this]
      simp [e]
    · simp [e, hn]
theorem mrk_none {tm N : Nat} (n : Int) : ¬ Mrk tm (List.replicate N false) n := fun h => by
  have := h.2
  rw [List.getElem?_replicate] at this
  split at this
  · injection this with this
    cases this
  · cases this
structure MkPost (g : Gm) (L L' : List Bool) (s : Int) : Prop where
  len : L'.length = L.length
  sub : ∀ n, Mrk g.terms L n → Mrk g.terms L' n
  snd : (∀ n, Mrk g.terms L n → Rch g n) → ((g.terms : Int) < s → Rch g s) → ∀ n, Mrk g.terms L' n → Rch g n
  has : (g.terms : Int) < s → Mrk g.terms L' s
  cls : ∀ n, Mrk g.terms L' n → ¬ Mrk g.terms L n → ∀ p ∈ g.prods, p.left = n → ∀ m ∈ p.right, (g.terms : Int) < m → Mrk g.terms L' m
/-- nothing is to be done -/
theorem MkPost.idle {g : Gm} {L : List Bool} {s : Int} (h : (g.terms : Int) < s → Mrk g.terms L s) : MkPost g L L s := ⟨rfl, fun _ h => h, fun h _ => h, h, fun _ h1 h2 => absurd h1 h2⟩
/-- under way: the productions ahead of i, of that one the symbols ahead of k; C are the marks now -/
structure MkL (g : Gm) (L C : List Bool) (s : Int) (i k : Nat) : Prop where
  len : C.length = L.length
  sub : ∀ n, Mrk g.terms L n → Mrk g.terms C n
  me : Mrk g.terms C s
  snd : (∀ n, Mrk g.terms L n → Rch g n) → Rch g s → ∀ n, Mrk g.terms C n → Rch g n
  cls : ∀ n, Mrk g.terms C n → ¬ Mrk g.terms L n → n ≠ s → ∀ p ∈ g.prods, p.left = n → ∀ m ∈ p.right, (g.terms : Int) < m → Mrk g.terms C m
  done : ∀ j (hj : j < g.prods.length), j < i → g.prods[j].left = s → ∀ m ∈ g.prods[j].right, (g.terms : Int) < m → Mrk g.terms C m
  now : ∀ (hi : i < g.prods.length), g.prods[i].left = s → ∀ q (hq : q < g.prods[i].right.length), q < k → (g.terms : Int) < g.prods[i].right[q] → Mrk g.terms C g.prods[i].right[q]
theorem MkL.start {g : Gm} {L : List Bool} {s : Int} (hs : (g.terms : Int) < s) (hl : (s - (g.terms : Int) - 1).toNat < L.length) : MkL g L (L.set (s - (g.terms : Int) - 1).toNat true) s 0 0 where
  len := List.length_set
  sub n h := (mrk_set hs hl n).2 (.inr h)
  me := (mrk_set hs hl s).2 (.inl rfl)
  snd h1 h2 n h := by
    rcases (mrk_set hs hl n).1 h with rfl | h
    · exact h2
    · exact h1 n h
  cls n h h1 h2 := by
    rcases (mrk_set hs hl n).1 h with h3 | h3
    · exact absurd h3 h2
    · exact absurd h3 h1
  done _ _ h := absurd h (Nat.not_lt_zero _)
  now _ _ _ _ h := absurd h (Nat.not_lt_zero _)
/-- one symbol more -/
theorem MkL.sym {g : Gm} {L C C' : List Bool} {s : Int} {i k : Nat} (h : MkL g L C s i k) (hi : i < g.prods.length) (hk : k < g.prods[i].right.length) (hl : g.prods[i].left = s) (hP : MkPost g C C' g.prods[i].right[k]) : MkL g L C' s i (k + 1) where
  len := hP.len.trans h.len
  sub n hn := hP.sub n (h.sub n hn)
  me := hP.sub s h.me
  snd h1 h2 := hP.snd (h.snd h1 h2) (fun ht => Rch.step g.prods[i] _ (List.getElem_mem hi) (by rw [hl]; exact h2) (List.getElem_mem hk) ht)
  cls n hn h1 h2 p hp hpl m hm ht := by
    by_cases hc : Mrk g.terms C n
    · exact hP.sub m (h.cls n hc h1 h2 p hp hpl m hm ht)
    · exact hP.cls n hn hc p hp hpl m hm ht
  done j hj hji hjl m hm ht := hP.sub m (h.done j hj hji hjl m hm ht)
  now hi' hl' q hq hqk ht := by
    rcases Nat.lt_or_ge q k with h8 | h8
    · exact hP.sub _ (h.now hi' hl' q hq h8 ht)
    · obtain rfl : q = k := by omega
      exact hP.has ht
/-- one production more -/
theorem MkL.next {g : Gm} {L C : List Bool} {s : Int} {i k : Nat} (h : MkL g L C s i k) (hi : i < g.prods.length) (hk : g.prods[i].left = s → g.prods[i].right.length ≤ k) : MkL g L C s (i + 1) 0 where
  len := h.len
  sub := h.sub
  me := h.me
  snd := h.snd
  cls := h.cls
  done j hj hji hjl m hm ht := by
    rcases Nat.lt_or_ge j i with h8 | h8
    · exact h.done j hj h8 hjl m hm ht
    · obtain rfl : j = i := by omega
      obtain ⟨q, hq, rfl⟩ := List.getElem_of_mem hm
      exact h.now hi hjl q hq (by have := hk hjl; omega) ht
  now _ _ _ _ h := absurd h (Nat.not_lt_zero _)
theorem MkL.post {g : Gm} {L C : List Bool} {s : Int} {i k : Nat} (h : MkL g L C s i k) (hi : g.prods.length ≤ i) (hs : (g.terms : Int) < s) : MkPost g L C s where
  len := h.len
  sub := h.sub
  snd h1 h2 := h.snd h1 (h2 hs)
  has _ := h.me
  cls n hn h1 p hp hpl m hm ht := by
    by_cases e : n = s
    · subst e
      obtain ⟨j, hj, rfl⟩ := List.getElem_of_mem hp
      exact h.done j hj (by omega) hpl m hm ht
    · exact h.cls n hn h1 e p hp hpl m hm ht
/-- of a grammar whose start is a nonterminal: the marks are what is reached -/
theorem MkPost.all {g : Gm} {N : Nat} {L' : List Bool} (h : MkPost g (List.replicate N false) L' g.start) (hs : (g.terms : Int) < g.start) (n : Int) : Mrk g.terms L' n ↔ Rch g n := by
  refine ⟨fun hn => h.snd (fun m hm => absurd hm (mrk_none m)) (fun _ => Rch.start (by omega)) n hn, fun hn => ?_⟩
  induction hn with
  | start _ => exact h.has hs
  | step p m hp _ hm ht ih => exact h.cls p.left ih (mrk_none _) p hp rfl m hm ht
/-- how many have no mark -/
def offN (L : List Bool) : Nat := L.count false
theorem mrk_count {tm : Nat} {L : List Bool} {s : Int} (h : L[(s - (tm : Int) - 1).toNat]? = some false) : offN (L.set (s - (tm : Int) - 1).toNat true) + 1 = offN L := by
  unfold offN
  generalize (s - (tm : Int) - 1).toNat = j at *
  induction L generalizing j with
  | nil => simp at h
  | cons b L ih =>
    cases j with
    | zero =>
      simp only [List.getElem?_cons_zero, Option.some.injEq] at h
      subst h
      simp
    | succ j =>
      simp only [List.getElem?_cons_succ] at h
      have := ih j h
      simp only [List.set_cons_succ, List.count_cons]
      omega
/-- marks only come, never go -/
theorem offN_le {tm : Nat} {L L' : List Bool} (hl : L'.length = L.length) (h : ∀ n, Mrk tm L n → Mrk tm L' n) : offN L' ≤ offN L := by
  have h' : ∀ j : Nat, L[j]? = some true → L'[j]? = some true := fun j hj => by
    have := h ((tm : Int) + 1 + (j : Int)) ⟨by omega, by rw [show ((tm : Int) + 1 + (j : Int) - (tm : Int) - 1).toNat = j by omega]; exact hj⟩
    have := this.2
    rw [show ((tm : Int) + 1 + (j : Int) - (tm : Int) - 1).toNat = j by omega] at this
    exact this
  clear h
  unfold offN
  induction L generalizing L' with
  | nil => cases L' with | nil => exact Nat.le_refl _ | cons _ _ => simp at hl
  | cons b L ih =>
    cases L' with
    | nil => simp at hl
    | cons c L' =>
      have h1 := ih (L' := L') (by simpa using hl) (fun j hj => by have := h' (j + 1) (by simpa using hj); simpa using this)
      have h2 := h' 0
      simp only [List.getElem?_cons_zero, Option.some.injEq] at h2
      simp only [List.count_cons]
      cases b <;> cases c <;> simp_all <;> omega

end Go.Proofs.YthgbjhnknepefaaGreat
namespace Go.Proofs.YthgbjhnknepefaaGreat
open Go.RowKit Go.Maps

set_option maxRecDepth 20000 in
theorem letterC (b : Nat) (w : World) (hb : b < 256) : Calls Tryz.prog 73 #[.int .u8 (b : Int)] w fun e w' => e = .returned (.bool (letB b)) ∧ w' = w := by
  rcases (show b = 95 ∨ (65 ≤ b ∧ b ≤ 90) ∨ (97 ≤ b ∧ b ≤ 122) ∨ b < 65 ∨ (90 < b ∧ b < 97 ∧ b ≠ 95) ∨ 122 < b by omega) with h | h | h | h | h | h
  · rw [letB_yes (by omega)]
    subst h
    go_enter Tryz.func73, Tryz.ntmps73
    go_wp2
    go_ret
    exact ⟨by simp, rfl⟩
  · rw [letB_yes (by omega)]
    have h1 : ((b : Int) == 95) = false := by rw [beq_eq_false_iff_ne]; omega
    have h2 : (65 : Int) ≤ (b : Int) := by omega
    have h3 : (b : Int) ≤ 90 := by omega
    go_enter Tryz.func73, Tryz.ntmps73
    go_wp2
    go_ret
    exact ⟨by simp, rfl⟩
  · rw [letB_yes (by omega)]
    have h1 : ((b : Int) == 95) = false := by rw [beq_eq_false_iff_ne]; omega
    have h2 : (65 : Int) ≤ (b : Int) := by omega
    have h3 : ¬ (b : Int) ≤ 90 := by omega
    have h4 : (97 : Int) ≤ (b : Int) := by omega
    have h5 : (b : Int) ≤ 122 := by omega
    go_enter Tryz.func73, Tryz.ntmps73
    go_wp2
    go_ret
    exact ⟨by simp, rfl⟩
  · rw [letB_no (by omega)]
    have h1 : ((b : Int) == 95) = false := by rw [beq_eq_false_iff_ne]; omega
    have h2 : ¬ (65 : Int) ≤ (b : Int) := by omega
    have h4 : ¬ (97 : Int) ≤ (b : Int) := by omega
    go_enter Tryz.func73, Tryz.ntmps73
    go_wp2
    go_ret
    exact ⟨by simp, rfl⟩
  · rw [letB_no (by omega)]
    have h1 : ((b : Int) == 95) = false := by rw [beq_eq_false_iff_ne]; omega
    have h2 : (65 : Int) ≤ (b : Int) := by omega
    have h3 : ¬ (b : Int) ≤ 90 := by omega
    have h4 : ¬ (97 : Int) ≤ (b : Int) := by omega
    go_enter Tryz.func73, Tryz.ntmps73
    go_wp2
    go_ret
    exact ⟨by simp, rfl⟩
  · rw [letB_no (by omega)]
    have h1 : ((b : Int) == 95) = false := by rw [beq_eq_false_iff_ne]; omega
    have h2 : (65 : Int) ≤ (b : Int) := by omega
    have h3 : ¬ (b : Int) ≤ 90 := by omega
    have h4 : (97 : Int) ≤ (b : Int) := by omega
    have h5 : ¬ (b : Int) ≤ 122 := by omega
    go_enter Tryz.func73, Tryz.ntmps73
    go_wp2
    go_ret
    exact ⟨by simp, rfl⟩
theorem kw_yes {t : Txt} (h : t = kTok ∨ t = kSkip ∨ t = kLeft ∨ t = kRight ∨ t = kNone ∨ t = kStart) : kwB t = true := by
  rcases h with rfl | rfl | rfl | rfl | rfl | rfl <;> decide
theorem kw_no {t : Txt} (h1 : ¬ t = kTok) (h2 : ¬ t = kSkip) (h3 : ¬ t = kLeft) (h4 : ¬ t = kRight) (h5 : ¬ t = kNone) (h6 : ¬ t = kStart) : kwB t = false := by
  unfold kwB sdN
  rw [decide_eq_false h1, decide_eq_false h2, decide_eq_false h6, if_neg h3, if_neg h4, if_neg h5]
  rfl
theorem strT_is3 {t u : Txt} (h : t = u) : ((strT t).toList == u) = true := by rw [h, strT_toL, beq_self_eq_true]
theorem strT_isnt3 {t u : Txt} (h : ¬ t = u) : ((strT t).toList == u) = false := by rw [strT_toL, beq_eq_false_iff_ne]; exact h
set_option maxRecDepth 20000 in
set_option maxHeartbeats 4000000 in
theorem reservedC (t : Txt) (w : World) : Calls Tryz.prog 72 #[.string (strT t)] w fun e w' => e = .returned (.bool (kwB t)) ∧ w' = w := by
  by_cases h1 : t = kTok
  · have hb1 : ((strT t).toList == ([116, 111, 107, 101, 110] : Txt)) = true := strT_is3 h1
    rw [kw_yes (.inl h1)]
    clear h1
    generalize strT t = S at *
    go_enter Tryz.func72, Tryz.ntmps72
    go_wp2_with fail
    go_ret
    exact ⟨by first | rfl | simp, rfl⟩
  have hb1 : ((strT t).toList == ([116, 111, 107, 101, 110] : Txt)) = false := strT_isnt3 h1
  by_cases h2 : t = kSkip
  · have hb2 : ((strT t).toList == ([115, 107, 105, 112] : Txt)) = true := strT_is3 h2
    rw [kw_yes (.inr (.inl h2))]
    clear h1 h2
    generalize strT t = S at *
    go_enter Tryz.func72, Tryz.ntmps72
    go_wp2_with fail
    go_ret
    exact ⟨by first | rfl | simp, rfl⟩
  have hb2 : ((strT t).toList == ([115, 107, 105, 112] : Txt)) = false := strT_isnt3 h2
  by_cases h3 : t = kLeft
  · have hb3 : ((strT t).toList == ([108, 101, 102, 116] : Txt)) = true := strT_is3 h3
    rw [kw_yes (.inr (.inr (.inl h3)))]
    clear h1 h2 h3
    generalize strT t = S at *
    go_enter Tryz.func72, Tryz.ntmps72
    go_wp2_with fail
    go_ret
    exact ⟨by first | rfl | simp, rfl⟩
  have hb3 : ((strT t).toList == ([108, 101, 102, 116] : Txt)) = false := strT_isnt3 h3
  by_cases h4 : t = kRight
  · have hb4 : ((strT t).toList == ([114, 105, 103, 104, 116] : Txt)) = true := strT_is3 h4
    rw [kw_yes (.inr (.inr (.inr (.inl h4))))]
    clear h1 h2 h3 h4
    generalize strT t = S at *
    go_enter Tryz.func72, Tryz.ntmps72
    go_wp2_with fail
    go_ret
    exact ⟨by first | rfl | simp, rfl⟩
  have hb4 : ((strT t).toList == ([114, 105, 103, 104, 116] : Txt)) = false := strT_isnt3 h4
  by_cases h5 : t = kNone
  · have hb5 : ((strT t).toList == ([110, 111, 110, 101] : Txt)) = true := strT_is3 h5
    rw [kw_yes (.inr (.inr (.inr (.inr (.inl h5)))))]
    clear h1 h2 h3 h4 h5
    generalize strT t = S at *
    go_enter Tryz.func72, Tryz.ntmps72
    go_wp2_with fail
    go_ret
    exact ⟨by first | rfl | simp, rfl⟩
  have hb5 : ((strT t).toList == ([110, 111, 110, 101] : Txt)) = false := strT_isnt3 h5
  by_cases h6 : t = kStart
  · have hb6 : ((strT t).toList == ([115, 116, 97, 114, 116] : Txt)) = true := strT_is3 h6
    rw [kw_yes (.inr (.inr (.inr (.inr (.inr (h6))))))]
    clear h1 h2 h3 h4 h5 h6
    generalize strT t = S at *
    go_enter Tryz.func72, Tryz.ntmps72
    go_wp2_with fail
    go_ret
    exact ⟨by first | rfl | simp, rfl⟩
  have hb6 : ((strT t).toList == ([115, 116, 97, 114, 116] : Txt)) = false := strT_isnt3 h6
  rw [kw_no h1 h2 h3 h4 h5 h6]
  clear h1 h2 h3 h4 h5 h6
  generalize strT t = S at *
  go_enter Tryz.func72, Tryz.ntmps72
  go_wp2_with fail
  go_ret
  exact ⟨by first | rfl | simp, rfl⟩
theorem namB_bad {s : Txt} {i : Nat} (h : i < s.length) (h1 : letB s[i].toNat = false) (h2 : i = 0 ∨ digB s[i].toNat = false) : namB s = false := by
  rw [Bool.eq_false_iff]
  intro hn
  unfold namB at hn
  simp only [Bool.and_eq_true, decide_eq_true_eq, List.all_eq_true] at hn
  obtain ⟨⟨⟨-, h3⟩, h4⟩, -⟩ := hn
  rcases h2 with rfl | h2
  · cases s with
    | nil => cases h
    | cons c r =>
      have h1 : letB c.toNat = false := h1
      have h3 : letB c.toNat = true := h3
      rw [h1] at h3
      cases h3
  · have := h4 _ (List.getElem_mem h)
    rw [h1, h2] at this
    cases this
theorem namB_good {s : Txt} (h0 : 1 ≤ s.length) (h16 : s.length ≤ 16) (hk : kwB s = false) (h : ∀ i (hi : i < s.length), letB s[i].toNat = true ∨ (i ≠ 0 ∧ digB s[i].toNat = true)) : namB s = true := by
  refine namB_of ⟨h16, ?_, fun c hc => ?_⟩ hk
  · cases s with
    | nil => cases h0
    | cons c r =>
      rcases h 0 (by simp) with h1 | h1
      · exact ⟨c, r, rfl, h1⟩
      · exact absurd rfl h1.1
  · obtain ⟨i, hi, rfl⟩ := List.getElem_of_mem hc
    rcases h i hi with h1 | h1
    · rw [h1, Bool.true_or]
    · rw [h1.2, Bool.or_true]
theorem digB_yes {c : Nat} (h1 : 48 ≤ c) (h2 : c ≤ 57) : digB c = true := by unfold digB; rw [decide_eq_true h1, decide_eq_true h2]; rfl
theorem digB_no {c : Nat} (h : ¬ (48 ≤ c ∧ c ≤ 57)) : digB c = false := by
  unfold digB
  by_cases h1 : 48 ≤ c
  · rw [decide_eq_true h1, decide_eq_false (fun h2 => h ⟨h1, h2⟩)]; rfl
  · rw [decide_eq_false h1]; rfl
set_option maxRecDepth 20000 in
set_option maxHeartbeats 8000000 in
theorem namedC (s : Txt) (w : World) (hs : s.length ≤ 1000000) : Calls Tryz.prog 54 #[.string (strT s)] w fun e w' => e = .returned (.bool (namB s)) ∧ w' = w := by
  have hsz := strT_size s
  have GL := hid (fun (c : Nat) (hc : c < 256) (u : World) => letterC c u hc)
  have GK := hid (reservedC s w)
  rcases Nat.lt_or_ge s.length 1 with h1 | h1
  · have hz : ((strT s).size : Int) < 1 := by omega
    have hn : namB s = false := by
      have : s = [] := List.eq_nil_of_length_eq_zero (by omega)
      rw [this]; rfl
    rw [hn]
    clear GK GL hn hsz
    go_enter Tryz.func54, Tryz.ntmps54
    go_wp2
    go_ret
    exact ⟨rfl, rfl⟩
  have hz1 : ¬ ((strT s).size : Int) < 1 := by omega
  rcases Nat.lt_or_ge 16 s.length with h2 | h2
  · have hz : (16 : Int) < ((strT s).size : Int) := by omega
    have hn : namB s = false := by unfold namB; rw [decide_eq_false (by omega)]; rfl
    rw [hn]
    clear GK GL hn hsz
    go_enter Tryz.func54, Tryz.ntmps54
    go_wp2
    go_ret
    exact ⟨rfl, rfl⟩
  have hz2 : ¬ (16 : Int) < ((strT s).size : Int) := by omega
  cases hk : kwB s with
  | true =>
    have hn : namB s = false := by unfold namB; rw [hk]; simp
    rw [hn]
    rw [hk] at GK
    clear GL hn hsz hk
    go_enter Tryz.func54, Tryz.ntmps54
    go_wp2_with (go_at_call 72; refine GK.out.mono ?_; clear GK; rintro e w2 ⟨rfl, hc2⟩; subst w2)
    go_ret
    exact ⟨rfl, rfl⟩
  | false =>
    rw [hk] at GK
    have hgood := hid (fun h => namB_good h1 h2 hk h)
    have hbad := hid (fun i (h : i < s.length) h1 h2 => namB_bad h h1 h2)
    clear hk
    generalize namB s = R at *
    go_enter Tryz.func54, Tryz.ntmps54
    go_wp2_with (go_at_call 72; refine GK.out.mono ?_; clear GK; rintro e w2 ⟨rfl, hc2⟩; subst w2)
    go_loopw [3] (fun x wr => ∃ p : Nat, p ≤ s.length ∧ x = .int .i64 (p : Int) ∧ Hid (∀ i (hi : i < s.length), i < p → letB s[i].toNat = true ∨ (i ≠ 0 ∧ digB s[i].toNat = true)) ∧ wr = w) (fun x _ => s.length - (intOf x).toNat)
    case atStart => exact ⟨0, Nat.zero_le _, rfl, hid (fun i _ h => absurd h (Nat.not_lt_zero _)), rfl⟩
    case round =>
      obtain ⟨p, hp, rfl, hI, rfl⟩ := hrel
      by_cases hpt : p < s.length
      · have hptz : (p : Int) < ((strT s).size : Int) := by omega
        have hptn : p < (strT s).size := by omega
        have key := str_get hpt hptn
        have hgd : s.getD p 0 = s[p] := by rw [List.getD_eq_getElem?_getD, List.getElem?_eq_getElem hpt]; rfl
        rw [hgd] at key
        have hcb := s[p].toNat_lt
        have G := hid (GL.out s[p].toNat hcb wr)
        have hb1 := hid (fun h1 h2 => hbad.out p hpt h1 h2)
        have hst : Hid ((letB s[p].toNat = true ∨ (p ≠ 0 ∧ digB s[p].toNat = true)) → ∀ i (hi : i < s.length), i < p + 1 → letB s[i].toNat = true ∨ (i ≠ 0 ∧ digB s[i].toNat = true)) := hid (fun h i hi h9 => by
          rcases Nat.lt_or_ge i p with h8 | h8
          · exact hI.out i hi h8
          · obtain rfl : i = p := by omega
            exact h)
        clear hgd hI hbad
        generalize s[p].toNat = c at *
        have hdig : (48 ≤ c ∧ c ≤ 57) ∨ c < 48 ∨ 57 < c := by omega
        cases hl : letB c with
        | true =>
          rw [hl] at G
          have hn9 := hid (hst.out (.inl hl))
          clear hst hb1 hl
          rcases hdig with ⟨d1, d2⟩ | d1 | d1
          · have e1 : (48 : Int) ≤ (c : Int) := by omega
            have e2 : (c : Int) ≤ 57 := by omega
            go_wp2_with (go_at_call 73; refine G.out.mono ?_; clear G; rintro e w2 ⟨rfl, hc2⟩; subst w2)
            go_roundw
            case rel => exact ⟨p + 1, by omega, by go_num, hn9, by first | rfl | trivial⟩
            case measure => simp [intOf]; omega
          · have e1 : ¬ (48 : Int) ≤ (c : Int) := by omega
            go_wp2_with (go_at_call 73; refine G.out.mono ?_; clear G; rintro e w2 ⟨rfl, hc2⟩; subst w2)
            go_roundw
            case rel => exact ⟨p + 1, by omega, by go_num, hn9, by first | rfl | trivial⟩
            case measure => simp [intOf]; omega
          · have e1 : (48 : Int) ≤ (c : Int) := by omega
            have e2 : ¬ (c : Int) ≤ 57 := by omega
            go_wp2_with (go_at_call 73; refine G.out.mono ?_; clear G; rintro e w2 ⟨rfl, hc2⟩; subst w2)
            go_roundw
            case rel => exact ⟨p + 1, by omega, by go_num, hn9, by first | rfl | trivial⟩
            case measure => simp [intOf]; omega
        | false =>
          rw [hl] at G
          rcases Nat.eq_zero_or_pos p with h0 | h0
          · obtain rfl := hb1.out hl (.inl h0)
            have h0z : ((p : Int) == 0) = true := by rw [h0]; rfl
            clear hst hb1 hl h0
            rcases hdig with ⟨d1, d2⟩ | d1 | d1
            · have e1 : (48 : Int) ≤ (c : Int) := by omega
              have e2 : (c : Int) ≤ 57 := by omega
              go_wp2_with (go_at_call 73; refine G.out.mono ?_; clear G; rintro e w2 ⟨rfl, hc2⟩; subst w2)
              go_ret
              exact ⟨rfl, rfl⟩
            · have e1 : ¬ (48 : Int) ≤ (c : Int) := by omega
              go_wp2_with (go_at_call 73; refine G.out.mono ?_; clear G; rintro e w2 ⟨rfl, hc2⟩; subst w2)
              go_ret
              exact ⟨rfl, rfl⟩
            · have e1 : (48 : Int) ≤ (c : Int) := by omega
              have e2 : ¬ (c : Int) ≤ 57 := by omega
              go_wp2_with (go_at_call 73; refine G.out.mono ?_; clear G; rintro e w2 ⟨rfl, hc2⟩; subst w2)
              go_ret
              exact ⟨rfl, rfl⟩
          · have h0z : ((p : Int) == 0) = false := by rw [beq_eq_false_iff_ne]; omega
            rcases hdig with ⟨d1, d2⟩ | d1 | d1
            · have e1 : (48 : Int) ≤ (c : Int) := by omega
              have e2 : (c : Int) ≤ 57 := by omega
              have hn9 := hid (hst.out (.inr ⟨by omega, digB_yes d1 d2⟩))
              clear hst hb1 hl
              go_wp2_with (go_at_call 73; refine G.out.mono ?_; clear G; rintro e w2 ⟨rfl, hc2⟩; subst w2)
              go_roundw
              case rel => exact ⟨p + 1, by omega, by go_num, hn9, by first | rfl | trivial⟩
              case measure => simp [intOf]; omega
            · have e1 : ¬ (48 : Int) ≤ (c : Int) := by omega
              obtain rfl := hb1.out hl (.inr (digB_no (by omega)))
              clear hst hb1 hl
              go_wp2_with (go_at_call 73; refine G.out.mono ?_; clear G; rintro e w2 ⟨rfl, hc2⟩; subst w2)
              go_ret
              exact ⟨rfl, rfl⟩
            · have e1 : (48 : Int) ≤ (c : Int) := by omega
              have e2 : ¬ (c : Int) ≤ 57 := by omega
              obtain rfl := hb1.out hl (.inr (digB_no (by omega)))
              clear hst hb1 hl
              go_wp2_with (go_at_call 73; refine G.out.mono ?_; clear G; rintro e w2 ⟨rfl, hc2⟩; subst w2)
              go_ret
              exact ⟨rfl, rfl⟩
      · have hptz : ¬ (p : Int) < ((strT s).size : Int) := by omega
        obtain rfl := hgood.out (fun i hi => hI.out i hi (by omega))
        go_wp2
        go_ret
        exact ⟨rfl, rfl⟩

end Go.Proofs.YthgbjhnknepefaaGreat
