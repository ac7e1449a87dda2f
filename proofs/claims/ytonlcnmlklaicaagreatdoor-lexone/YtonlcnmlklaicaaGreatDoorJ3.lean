/- Where operands end. The reference: Empty. Spots of a rule: a way is a way by its first, its last and what stands behind what. A byte as it is told in a rule's text, and as it is read. -/
import Derived.Test.YtonlcnmlklaicaaGreatDoorJ2
import Derived.Test.YtonlcnmlklaicaaGreatDoorJ1
namespace Go.Proofs.YtonlcnmlklaicaaGreatDoor
open Go.RowKit

/-- the last cell of a rule that lies in a list -/
theorem root_at {l pre suf : List Cel} {t : Rx} (h : l = pre ++ (post t ++ suf)) : ∃ J : Nat, J + 1 = pre.length + (post t).length ∧ l[J]? = some (rootC t) := by
  have e : lain [t] = post t := by simp [lain]
  have hl := lain_last (l := l) (pre := pre) (suf := suf) (t := t) (st := []) (by rw [e]; exact h)
  have hn := lain_len t []
  rw [e] at hn
  exact ⟨_, by omega, hl.1⟩
theorem len_le {l pre suf : List Cel} {t : Rx} (h : l = pre ++ (post t ++ suf)) : pre.length + (post t).length ≤ l.length := by
  have := congrArg List.length h
  simp at this
  omega

end Go.Proofs.YtonlcnmlklaicaaGreatDoor
namespace Go.Proofs.YtonlcnmlklaicaaGreatDoor
open Go.RowKit

end Go.Proofs.YtonlcnmlklaicaaGreatDoor
namespace Go.Proofs.YtonlcnmlklaicaaGreatDoor

/-- how many spots -/
def nSets : Rx → Nat
  | .set _ => 1
  | .eps => 0
  | .cat a b => nSets a + nSets b
  | .or a b => nSets a + nSets b
  | .star a => nSets a
  | .plus a => nSets a
  | .opt a => nSets a
/-- spots, numbered from n on: with which a way begins -/
def Fst : Rx → Nat → Nat → Prop
  | .set _, n, k => k = n
  | .eps, _, _ => False
  | .cat a b, n, k => Fst a n k ∨ (a.null = true ∧ Fst b (n + nSets a) k)
  | .or a b, n, k => Fst a n k ∨ Fst b (n + nSets a) k
  | .star a, n, k => Fst a n k
  | .plus a, n, k => Fst a n k
  | .opt a, n, k => Fst a n k
def Lst : Rx → Nat → Nat → Prop
  | .set _, n, k => k = n
  | .eps, _, _ => False
  | .cat a b, n, k => Lst b (n + nSets a) k ∨ (b.null = true ∧ Lst a n k)
  | .or a b, n, k => Lst a n k ∨ Lst b (n + nSets a) k
  | .star a, n, k => Lst a n k
  | .plus a, n, k => Lst a n k
  | .opt a, n, k => Lst a n k
def Fol : Rx → Nat → Nat → Nat → Prop
  | .set _, _, _, _ => False
  | .eps, _, _, _ => False
  | .cat a b, n, j, k => Fol a n j k ∨ Fol b (n + nSets a) j k ∨ (Lst a n j ∧ Fst b (n + nSets a) k)
  | .or a b, n, j, k => Fol a n j k ∨ Fol b (n + nSets a) j k
  | .star a, n, j, k => Fol a n j k ∨ (Lst a n j ∧ Fst a n k)
  | .plus a, n, j, k => Fol a n j k ∨ (Lst a n j ∧ Fst a n k)
  | .opt a, n, j, k => Fol a n j k
theorem fst_in : ∀ (t : Rx) (n k : Nat), Fst t n k → n ≤ k ∧ k < n + nSets t
  | .set _, n, k, h => by simp only [Fst] at h; simp [nSets]; omega
  | .eps, _, _, h => h.elim
  | .cat a b, n, k, h => by
    simp only [nSets]
    rcases h with h | ⟨_, h⟩
    · have := fst_in a n k h; omega
    · have := fst_in b _ k h; omega
  | .or a b, n, k, h => by
    simp only [nSets]
    rcases h with h | h
    · have := fst_in a n k h; omega
    · have := fst_in b _ k h; omega
  | .star a, n, k, h => fst_in a n k h
  | .plus a, n, k, h => fst_in a n k h
  | .opt a, n, k, h => fst_in a n k h
theorem lst_in : ∀ (t : Rx) (n k : Nat), Lst t n k → n ≤ k ∧ k < n + nSets t
  | .set _, n, k, h => by simp only [Lst] at h; simp [nSets]; omega
  | .eps, _, _, h => h.elim
  | .cat a b, n, k, h => by
    simp only [nSets]
    rcases h with h | ⟨_, h⟩
    · have := lst_in b _ k h; omega
    · have := lst_in a n k h; omega
  | .or a b, n, k, h => by
    simp only [nSets]
    rcases h with h | h
    · have := lst_in a n k h; omega
    · have := lst_in b _ k h; omega
  | .star a, n, k, h => lst_in a n k h
  | .plus a, n, k, h => lst_in a n k h
  | .opt a, n, k, h => lst_in a n k h
theorem fol_in : ∀ (t : Rx) (n j k : Nat), Fol t n j k → (n ≤ j ∧ j < n + nSets t) ∧ n ≤ k ∧ k < n + nSets t
  | .set _, _, _, _, h => h.elim
  | .eps, _, _, _, h => h.elim
  | .cat a b, n, j, k, h => by
    simp only [nSets]
    rcases h with h | h | ⟨h, h'⟩
    · have := fol_in a n j k h; omega
    · have := fol_in b _ j k h; omega
    · have := lst_in a n j h; have := fst_in b _ k h'; omega
  | .or a b, n, j, k, h => by
    simp only [nSets]
    rcases h with h | h
    · have := fol_in a n j k h; omega
    · have := fol_in b _ j k h; omega
  | .star a, n, j, k, h => by
    simp only [nSets]
    rcases h with h | ⟨h, h'⟩
    · exact fol_in a n j k h
    · exact ⟨lst_in a n j h, fst_in a n k h'⟩
  | .plus a, n, j, k, h => by
    simp only [nSets]
    rcases h with h | ⟨h, h'⟩
    · exact fol_in a n j k h
    · exact ⟨lst_in a n j h, fst_in a n k h'⟩
  | .opt a, n, j, k, h => fol_in a n j k h

/-- a way: spots, read at those very cells -/
inductive Way : Rx → Nat → List Nat → Prop
  | set (S : W4) (n : Nat) : Way (.set S) n [n]
  | eps (n : Nat) : Way .eps n []
  | cat {a b : Rx} {n : Nat} {u v : List Nat} : Way a n u → Way b (n + nSets a) v → Way (.cat a b) n (u ++ v)
  | orL {a b : Rx} {n : Nat} {u : List Nat} : Way a n u → Way (.or a b) n u
  | orR {a b : Rx} {n : Nat} {u : List Nat} : Way b (n + nSets a) u → Way (.or a b) n u
  | star0 (a : Rx) (n : Nat) : Way (.star a) n []
  | starS {a : Rx} {n : Nat} {u v : List Nat} : Way a n u → Way (.star a) n v → Way (.star a) n (u ++ v)
  | plus {a : Rx} {n : Nat} {u v : List Nat} : Way a n u → Way (.star a) n v → Way (.plus a) n (u ++ v)
  | opt0 (a : Rx) (n : Nat) : Way (.opt a) n []
  | opt1 {a : Rx} {n : Nat} {u : List Nat} : Way a n u → Way (.opt a) n u

/-- each stands behind the one ahead -/
def Chn (R : Nat → Nat → Prop) : List Nat → Prop
  | [] => True
  | [_] => True
  | x :: y :: r => R x y ∧ Chn R (y :: r)
theorem Chn.imp {R R' : Nat → Nat → Prop} (h : ∀ x y, R x y → R' x y) : ∀ {u : List Nat}, Chn R u → Chn R' u
  | [], _ => trivial
  | [_], _ => trivial
  | x :: y :: r, hc => ⟨h x y hc.1, Chn.imp h (u := y :: r) hc.2⟩
theorem Chn.imp_mem {R R' : Nat → Nat → Prop} : ∀ {u : List Nat}, (∀ x ∈ u, ∀ y ∈ u, R x y → R' x y) → Chn R u → Chn R' u
  | [], _, _ => trivial
  | [_], _, _ => trivial
  | x :: y :: r, h, hc => ⟨h x (by simp) y (by simp) hc.1, Chn.imp_mem (u := y :: r) (fun a ha b hb => h a (List.mem_cons_of_mem _ ha) b (List.mem_cons_of_mem _ hb)) hc.2⟩
theorem Chn.tail {R : Nat → Nat → Prop} {x : Nat} : ∀ {u : List Nat}, Chn R (x :: u) → Chn R u
  | [], _ => trivial
  | _ :: _, h => h.2
/-- the last of a list that isn't empty -/
def lastD : Nat → List Nat → Nat
  | x, [] => x
  | _, y :: r => lastD y r
theorem Chn.app {R : Nat → Nat → Prop} : ∀ {x : Nat} {u : List Nat} {y : Nat} {v : List Nat}, Chn R (x :: u) → Chn R (y :: v) → R (lastD x u) y → Chn R (x :: (u ++ y :: v))
  | _, [], _, _, _, hv, h => ⟨h, hv⟩
  | _, z :: _, _, _, hu, hv, h => ⟨hu.1, Chn.app (x := z) hu.2 hv h⟩
theorem lastD_app : ∀ (x : Nat) (u : List Nat) (y : Nat) (v : List Nat), lastD x (u ++ y :: v) = lastD y v
  | _, [], _, _ => rfl
  | _, z :: u, y, v => lastD_app z u y v
theorem Chn.split {R : Nat → Nat → Prop} : ∀ {x : Nat} {u : List Nat} {y : Nat} {v : List Nat}, Chn R (x :: (u ++ y :: v)) → Chn R (x :: u) ∧ Chn R (y :: v) ∧ R (lastD x u) y
  | x, [], y, v, h => ⟨trivial, h.2, h.1⟩
  | x, z :: u, y, v, h => by
    obtain ⟨h1, h2, h3⟩ := Chn.split (x := z) (u := u) h.2
    exact ⟨⟨h.1, h1⟩, h2, h3⟩
theorem lastD_mem : ∀ (x : Nat) (u : List Nat), lastD x u ∈ x :: u
  | x, [] => by simp [lastD]
  | x, y :: u => by
    have := lastD_mem y u
    exact List.mem_cons_of_mem _ this

/-- told by its first, its last and what stands behind what -/
def Loc (t : Rx) (n : Nat) : List Nat → Prop
  | [] => t.null = true
  | x :: u => Fst t n x ∧ Lst t n (lastD x u) ∧ Chn (Fol t n) (x :: u)

theorem way_loc {t : Rx} {n : Nat} {u : List Nat} (h : Way t n u) : Loc t n u := by
  induction h with
  | set S n => exact ⟨rfl, rfl, trivial⟩
  | eps n => rfl
  | @cat a b n u v _ _ ha hb =>
    cases u with
    | nil =>
      cases v with
      | nil => simp only [Loc, List.nil_append] at *; simp [Rx.null, ha, hb]
      | cons y v => exact ⟨Or.inr ⟨ha, hb.1⟩, Or.inl hb.2.1, hb.2.2.imp fun _ _ h => Or.inr (Or.inl h)⟩
    | cons x u =>
      cases v with
      | nil =>
        rw [List.append_nil]
        exact ⟨Or.inl ha.1, Or.inr ⟨hb, ha.2.1⟩, ha.2.2.imp fun _ _ h => Or.inl h⟩
      | cons y v =>
        refine ⟨Or.inl ha.1, ?_, ?_⟩
        · show Lst _ n (lastD x (u ++ y :: v)); rw [lastD_app]; exact Or.inl hb.2.1
        · exact Chn.app (ha.2.2.imp fun _ _ h => Or.inl h) (hb.2.2.imp fun _ _ h => Or.inr (Or.inl h)) (Or.inr (Or.inr ⟨ha.2.1, hb.1⟩))
  | @orL a b n u _ ha =>
    cases u with
    | nil => simp only [Loc] at *; simp [Rx.null, ha]
    | cons x u => exact ⟨Or.inl ha.1, Or.inl ha.2.1, ha.2.2.imp fun _ _ h => Or.inl h⟩
  | @orR a b n u _ hb =>
    cases u with
    | nil => simp only [Loc] at *; simp [Rx.null, hb]
    | cons x u => exact ⟨Or.inr hb.1, Or.inr hb.2.1, hb.2.2.imp fun _ _ h => Or.inr h⟩
  | star0 a n => rfl
  | @starS a n u v _ _ ha hb =>
    cases u with
    | nil => exact hb
    | cons x u =>
      cases v with
      | nil =>
        rw [List.append_nil]
        exact ⟨ha.1, ha.2.1, ha.2.2.imp fun _ _ h => Or.inl h⟩
      | cons y v =>
        refine ⟨ha.1, ?_, ?_⟩
        · show Lst _ n (lastD x (u ++ y :: v)); rw [lastD_app]; exact hb.2.1
        · exact Chn.app (ha.2.2.imp fun _ _ h => Or.inl h) hb.2.2 (Or.inr ⟨ha.2.1, hb.1⟩)
  | @plus a n u v _ _ ha hb =>
    cases u with
    | nil =>
      cases v with
      | nil => exact ha
      | cons y v => exact ⟨hb.1, hb.2.1, hb.2.2⟩
    | cons x u =>
      cases v with
      | nil =>
        rw [List.append_nil]
        exact ⟨ha.1, ha.2.1, ha.2.2.imp fun _ _ h => Or.inl h⟩
      | cons y v =>
        refine ⟨ha.1, ?_, ?_⟩
        · show Lst _ n (lastD x (u ++ y :: v)); rw [lastD_app]; exact hb.2.1
        · exact Chn.app (ha.2.2.imp fun _ _ h => Or.inl h) hb.2.2 (Or.inr ⟨ha.2.1, hb.1⟩)
  | opt0 a n => rfl
  | @opt1 a n u _ ha =>
    cases u with
    | nil => rfl
    | cons x u => exact ⟨ha.1, ha.2.1, ha.2.2⟩

/-- once past a border, never back: the list is cut there -/
theorem cut_at {R : Nat → Nat → Prop} {m : Nat} (hR : ∀ j k, R j k → m ≤ j → m ≤ k) : ∀ (u : List Nat), Chn R u → ∃ p q, u = p ++ q ∧ (∀ x ∈ p, x < m) ∧ ∀ x ∈ q, m ≤ x
  | [], _ => ⟨[], [], rfl, fun _ h => absurd h (List.not_mem_nil), fun _ h => absurd h (List.not_mem_nil)⟩
  | x :: u, h => by
    obtain ⟨p, q, e, hp, hq⟩ := cut_at hR u h.tail
    by_cases hx : x < m
    · refine ⟨x :: p, q, by rw [e]; rfl, fun y hy => ?_, hq⟩
      rcases List.mem_cons.1 hy with rfl | hy
      · exact hx
      · exact hp y hy
    · cases p with
      | nil =>
        refine ⟨[], x :: q, by rw [e]; rfl, fun _ h => absurd h (List.not_mem_nil), fun y hy => ?_⟩
        rcases List.mem_cons.1 hy with rfl | hy
        · omega
        · exact hq y hy
      | cons z p =>
        subst e
        have h1 := hR x z h.1 (by omega)
        have h2 := hp z (by simp)
        omega

theorem star_cut {a : Rx} {n : Nat} : ∀ (r : List Nat) (x : Nat), Chn (fun j k => Fol a n j k ∨ (Lst a n j ∧ Fst a n k)) (x :: r) → Lst a n (lastD x r) →
    ∃ p q, r = p ++ q ∧ Chn (Fol a n) (x :: p) ∧ Lst a n (lastD x p) ∧ (q = [] ∨ ∃ y q', q = y :: q' ∧ Fst a n y ∧ Chn (fun j k => Fol a n j k ∨ (Lst a n j ∧ Fst a n k)) q ∧ Lst a n (lastD y q'))
  | [], x, _, hl => ⟨[], [], rfl, trivial, hl, Or.inl rfl⟩
  | y :: r, x, hc, hl => by
    by_cases hf : Fol a n x y
    · obtain ⟨p, q, e, h1, h2, h3⟩ := star_cut r y hc.2 hl
      exact ⟨y :: p, q, by rw [e]; rfl, ⟨hf, h1⟩, h2, h3⟩
    · rcases hc.1 with h | ⟨h, h'⟩
      · exact absurd h hf
      · exact ⟨[], y :: r, rfl, trivial, h, Or.inr ⟨y, r, rfl, h', hc.2, hl⟩⟩
theorem star_way {a : Rx} {n : Nat} (ih : ∀ u, Loc a n u → Way a n u) : ∀ (len : Nat) (u : List Nat), u.length ≤ len → Loc (.star a) n u → Way (.star a) n u
  | _, [], _, _ => Way.star0 a n
  | 0, _ :: _, h, _ => by simp at h
  | len + 1, x :: r, hl, h => by
    obtain ⟨p, q, e, h1, h2, h3⟩ := star_cut r x h.2.2 h.2.1
    have hw : Way a n (x :: p) := ih _ ⟨h.1, h2, h1⟩
    subst e
    rw [show x :: (p ++ q) = (x :: p) ++ q from rfl]
    refine Way.starS hw ?_
    rcases h3 with rfl | ⟨y, q', rfl, hy, hc, hl'⟩
    · exact Way.star0 a n
    · exact star_way ih len _ (by simp at hl ⊢; omega) ⟨hy, hl', hc⟩

theorem loc_way : ∀ (t : Rx) (n : Nat) (u : List Nat), Loc t n u → Way t n u
  | .set S, n, [], h => by simp [Loc, Rx.null] at h
  | .set S, n, x :: u, h => by
    obtain ⟨h1, h2, h3⟩ := h
    simp only [Fst] at h1
    subst h1
    cases u with
    | nil => exact Way.set S x
    | cons y u => exact h3.1.elim
  | .eps, n, [], _ => Way.eps n
  | .eps, n, _ :: _, h => h.1.elim
  | .cat a b, n, [], h => by
    simp only [Loc, Rx.null, Bool.and_eq_true] at h
    exact Way.cat (u := []) (v := []) (loc_way a n [] h.2) (loc_way b _ [] h.1)
  | .cat a b, n, x :: r, h => by
    obtain ⟨h1, h2, h3⟩ := h
    obtain ⟨p, q, e, hp, hq⟩ := cut_at (m := n + nSets a) (R := Fol (.cat a b) n) (fun j k hf hj => by
      rcases hf with hf | hf | ⟨hf, hf'⟩
      · have := fol_in a n j k hf; omega
      · have := fol_in b _ j k hf; omega
      · have := fst_in b _ k hf'; omega) (x :: r) h3
    have inA : ∀ y ∈ p, ∀ z ∈ p, Fol (.cat a b) n y z → Fol a n y z := fun y hy z hz hf => by
      rcases hf with hf | hf | ⟨hf, hf'⟩
      · exact hf
      · have := fol_in b _ y z hf; have := hp y hy; omega
      · have := fst_in b _ z hf'; have := hp z hz; omega
    have inB : ∀ y ∈ q, ∀ z ∈ q, Fol (.cat a b) n y z → Fol b (n + nSets a) y z := fun y hy z hz hf => by
      rcases hf with hf | hf | ⟨hf, hf'⟩
      · have := fol_in a n y z hf; have := hq y hy; omega
      · exact hf
      · have := lst_in a n y hf; have := hq y hy; omega
    cases p with
    | nil =>
      cases q with
      | nil => simp at e
      | cons y q =>
        simp only [List.nil_append, List.cons.injEq] at e
        obtain ⟨rfl, rfl⟩ := e
        have hx := hq x (by simp)
        have ha : a.null = true ∧ Fst b (n + nSets a) x := by
          rcases h1 with h1 | h1
          · have := fst_in a n x h1; omega
          · exact h1
        have hl : Lst b (n + nSets a) (lastD x r) := by
          have hm := hq _ (lastD_mem x r)
          rcases h2 with h2 | ⟨_, h2⟩
          · exact h2
          · have := lst_in a n _ h2; omega
        exact Way.cat (u := []) (loc_way a n [] ha.1) (loc_way b _ (x :: r) ⟨ha.2, hl, h3.imp_mem inB⟩)
    | cons y p =>
      simp only [List.cons_append, List.cons.injEq] at e
      obtain ⟨rfl, rfl⟩ := e
      have hx := hp x (by simp)
      have hf : Fst a n x := by
        rcases h1 with h1 | ⟨_, h1⟩
        · exact h1
        · have := fst_in b _ x h1; omega
      cases q with
      | nil =>
        rw [List.append_nil] at h2 h3 ⊢
        have hm := hp _ (lastD_mem x p)
        have hl : b.null = true ∧ Lst a n (lastD x p) := by
          rcases h2 with h2 | h2
          · have := lst_in b _ _ h2; omega
          · exact h2
        have := Way.cat (loc_way a n (x :: p) ⟨hf, hl.2, h3.imp_mem inA⟩) (loc_way b (n + nSets a) [] hl.1)
        rwa [List.append_nil] at this
      | cons z q =>
        obtain ⟨g1, g2, g3⟩ := h3.split
        rw [lastD_app] at h2
        have hm := hq _ (lastD_mem z q)
        have hl : Lst b (n + nSets a) (lastD z q) := by
          rcases h2 with h2 | ⟨_, h2⟩
          · exact h2
          · have := lst_in a n _ h2; omega
        have hc : Lst a n (lastD x p) ∧ Fst b (n + nSets a) z := by
          have k1 := hp _ (lastD_mem x p)
          have k2 := hq z (by simp)
          rcases g3 with g | g | g
          · have := fol_in a n _ z g; omega
          · have := fol_in b _ _ z g; omega
          · exact g
        exact Way.cat (u := x :: p) (loc_way a n (x :: p) ⟨hf, hc.1, g1.imp_mem inA⟩) (loc_way b _ (z :: q) ⟨hc.2, hl, g2.imp_mem inB⟩)
  | .or a b, n, [], h => by
    simp only [Loc, Rx.null, Bool.or_eq_true] at h
    rcases h with h | h
    · exact Way.orR (loc_way b _ [] h)
    · exact Way.orL (loc_way a n [] h)
  | .or a b, n, x :: r, h => by
    obtain ⟨h1, h2, h3⟩ := h
    obtain ⟨p, q, e, hp, hq⟩ := cut_at (m := n + nSets a) (R := Fol (.or a b) n) (fun j k hf hj => by
      rcases hf with hf | hf
      · have := fol_in a n j k hf; omega
      · have := fol_in b _ j k hf; omega) (x :: r) h3
    cases p with
    | nil =>
      simp only [List.nil_append] at e
      subst e
      have hx := hq x (by simp)
      have hf : Fst b (n + nSets a) x := by
        rcases h1 with h1 | h1
        · have := fst_in a n x h1; omega
        · exact h1
      have hm := hq _ (lastD_mem x r)
      have hl : Lst b (n + nSets a) (lastD x r) := by
        rcases h2 with h2 | h2
        · have := lst_in a n _ h2; omega
        · exact h2
      refine Way.orR (loc_way b _ (x :: r) ⟨hf, hl, h3.imp_mem fun y hy z hz hf => ?_⟩)
      rcases hf with hf | hf
      · have := fol_in a n y z hf; have := hq y hy; omega
      · exact hf
    | cons y p =>
      simp only [List.cons_append, List.cons.injEq] at e
      obtain ⟨rfl, rfl⟩ := e
      have hx := hp x (by simp)
      cases q with
      | cons z q =>
        obtain ⟨_, _, g3⟩ := h3.split
        have k1 := hp _ (lastD_mem x p)
        have k2 := hq z (by simp)
        rcases g3 with g | g
        · have := fol_in a n _ z g; omega
        · have := fol_in b _ _ z g; omega
      | nil =>
        rw [List.append_nil] at h2 h3 ⊢
        have hf : Fst a n x := by
          rcases h1 with h1 | h1
          · exact h1
          · have := fst_in b _ x h1; omega
        have hm := hp _ (lastD_mem x p)
        have hl : Lst a n (lastD x p) := by
          rcases h2 with h2 | h2
          · exact h2
          · have := lst_in b _ _ h2; omega
        refine Way.orL (loc_way a n (x :: p) ⟨hf, hl, h3.imp_mem fun y hy z hz hf => ?_⟩)
        rcases hf with hf | hf
        · exact hf
        · have := fol_in b _ y z hf; have := hp y hy; omega
  | .star a, n, u, h => star_way (loc_way a n) u.length u (Nat.le_refl _) h
  | .plus a, n, [], h => Way.plus (u := []) (v := []) (loc_way a n [] h) (Way.star0 a n)
  | .plus a, n, x :: r, h => by
    obtain ⟨p, q, e, h1, h2, h3⟩ := star_cut r x h.2.2 h.2.1
    subst e
    rw [show x :: (p ++ q) = (x :: p) ++ q from rfl]
    refine Way.plus (loc_way a n _ ⟨h.1, h2, h1⟩) ?_
    rcases h3 with rfl | ⟨y, q', rfl, hy, hc, hl'⟩
    · exact Way.star0 a n
    · exact star_way (loc_way a n) _ _ (Nat.le_refl _) ⟨hy, hl', hc⟩
  | .opt a, n, [], _ => Way.opt0 a n
  | .opt a, n, x :: r, h => Way.opt1 (loc_way a n (x :: r) ⟨h.1, h.2.1, h.2.2⟩)

/-- a way is a way by its first, its last and what stands behind what -/
theorem way_iff (t : Rx) (n : Nat) (u : List Nat) : Way t n u ↔ Loc t n u := ⟨way_loc, loc_way t n u⟩

end Go.Proofs.YtonlcnmlklaicaaGreatDoor
namespace Go.Proofs.YtonlcnmlklaicaaGreatDoor

abbrev Txt := List UInt8
/-- left out of plain atoms (by itself, but \), of classes; told by \ -/
def leftA (c : UInt8) : Bool := [46, 42, 43, 63, 40, 41, 91, 93, 124, 47].contains c
def leftC (c : UInt8) : Bool := [91, 93, 94, 45, 47].contains c
def escD (c : UInt8) : Bool := [46, 42, 43, 63, 40, 41, 91, 93, 124, 92, 47, 45, 94].contains c
def hexF (c : UInt8) : Option Nat :=
  if 48 ≤ c ∧ c ≤ 57 then some (c.toNat - 48) else if 97 ≤ c ∧ c ≤ 102 then some (c.toNat - 87) else if 65 ≤ c ∧ c ≤ 70 then some (c.toNat - 55) else none
/-- behind a \ -/
def escF : Txt → Option (Nat × Txt)
  | [] => none
  | d :: r =>
    if d = 110 then some (10, r) else if d = 116 then some (9, r) else if d = 114 then some (13, r)
    else if d = 120 then
      match r with
      | x :: y :: q => match hexF x, hexF y with
        | some a, some b => some (16 * a + b, q)
        | _, _ => none
      | _ => none
    else if escD d then some (d.toNat, r) else none
def signF (left : UInt8 → Bool) : Txt → Option (Nat × Txt)
  | [] => none
  | c :: r => if c < 32 ∨ 126 < c then none else if c = 92 then escF r else if left c then none else some (c.toNat, r)
theorem escF_ext {s : Txt} {b : Nat} {q : Txt} (r : Txt) (h : escF s = some (b, q)) : escF (s ++ r) = some (b, q ++ r) := by
  cases s with
  | nil => cases h
  | cons d s =>
    simp only [List.cons_append, escF] at h ⊢
    split
    · rename_i h1; rw [if_pos h1] at h; injection h with h; injection h with h2 h3; subst h2 h3; rfl
    rename_i h1; rw [if_neg h1] at h
    split
    · rename_i h1; rw [if_pos h1] at h; injection h with h; injection h with h2 h3; subst h2 h3; rfl
    rename_i h1; rw [if_neg h1] at h
    split
    · rename_i h1; rw [if_pos h1] at h; injection h with h; injection h with h2 h3; subst h2 h3; rfl
    rename_i h1; rw [if_neg h1] at h
    split
    · rename_i h1; rw [if_pos h1] at h
      match s, h with
      | x :: y :: z, h =>
        simp only [List.cons_append] at h ⊢
        split at h
        · rename_i a b' ha hb
          injection h with h; injection h with h2 h3; subst h2 h3
          first | rfl | rw [ha, hb]
        · cases h
    rename_i h1; rw [if_neg h1] at h
    split
    · rename_i h1; rw [if_pos h1] at h; injection h with h; injection h with h2 h3; subst h2 h3; rfl
    · rename_i h1; rw [if_neg h1] at h; cases h
theorem signF_ext {left : UInt8 → Bool} {s : Txt} {b : Nat} {q : Txt} (r : Txt) (h : signF left s = some (b, q)) : signF left (s ++ r) = some (b, q ++ r) := by
  cases s with
  | nil => cases h
  | cons c s =>
    simp only [List.cons_append, signF] at h ⊢
    split
    · rename_i h1; rw [if_pos h1] at h; cases h
    rename_i h1; rw [if_neg h1] at h
    split
    · rename_i h1; rw [if_pos h1] at h; exact escF_ext r h
    rename_i h1; rw [if_neg h1] at h
    split
    · rename_i h1; rw [if_pos h1] at h; cases h
    · rename_i h1; rw [if_neg h1] at h; injection h with h; injection h with h2 h3; subst h2 h3; rfl
/-- what is read is shorter -/
theorem escF_lt {s : Txt} {b : Nat} {q : Txt} (h : escF s = some (b, q)) : q.length < s.length := by
  cases s with
  | nil => cases h
  | cons d s =>
    simp only [escF] at h
    split at h
    · injection h with h; injection h with h2 h3; subst h3; simp
    split at h
    · injection h with h; injection h with h2 h3; subst h3; simp
    split at h
    · injection h with h; injection h with h2 h3; subst h3; simp
    split at h
    · match s, h with
      | x :: y :: z, h =>
        simp only at h
        split at h
        · injection h with h; injection h with h2 h3; subst h3; simp; omega
        · cases h
    split at h
    · injection h with h; injection h with h2 h3; subst h3; simp
    · cases h
theorem signF_lt {left : UInt8 → Bool} {s : Txt} {b : Nat} {q : Txt} (h : signF left s = some (b, q)) : q.length < s.length := by
  cases s with
  | nil => cases h
  | cons c s =>
    simp only [signF] at h
    split at h
    · cases h
    split at h
    · have := escF_lt h; simp; omega
    split at h
    · cases h
    · injection h with h; injection h with h2 h3; subst h3; simp
def digL (n : Nat) : UInt8 := if n < 10 then UInt8.ofNat (48 + n) else UInt8.ofNat (87 + n)
/-- a byte as it is told: 'left' tells which must be told by \ -/
def aloneL (b : Nat) (left : UInt8 → Bool) : Txt :=
  if b = 10 then [92, 110] else if b = 9 then [92, 116] else if b = 13 then [92, 114]
  else if b < 32 ∨ 126 < b then [92, 120, digL (b / 16), digL (b % 16)]
  else if left (UInt8.ofNat b) then [92, UInt8.ofNat b] else [UInt8.ofNat b]
def tellA (c : UInt8) : Bool := leftA c || c == 92
def tellC (c : UInt8) : Bool := leftC c || c == 92
theorem aloneA_all : ∀ b : Fin 256, signF leftA (aloneL b tellA) = some (b.val, []) := by decide +kernel
theorem aloneC_all : ∀ b : Fin 256, signF leftC (aloneL b tellC) = some (b.val, []) := by decide +kernel
theorem aloneA (b : Nat) (h : b < 256) (r : Txt) : signF leftA (aloneL b tellA ++ r) = some (b, r) := by
  have := signF_ext r (aloneA_all ⟨b, h⟩)
  simpa using this
theorem aloneC (b : Nat) (h : b < 256) (r : Txt) : signF leftC (aloneL b tellC ++ r) = some (b, r) := by
  have := signF_ext r (aloneC_all ⟨b, h⟩)
  simpa using this
/-- how such a text begins: by none of the signs that mean something else there -/
theorem headA_all : ∀ b : Fin 256, (match aloneL b tellA with | c :: _ => !(leftA c) | [] => false) = true := by decide +kernel
theorem headC_all : ∀ b : Fin 256, (match aloneL b tellC with | c :: _ => !(leftC c) | [] => false) = true := by decide +kernel
theorem headA (b : Nat) (h : b < 256) : ∃ c r, aloneL b tellA = c :: r ∧ leftA c = false := by
  have := headA_all ⟨b, h⟩
  simp only at this
  split at this
  · rename_i c r e; exact ⟨c, r, e, by simpa using this⟩
  · cases this
theorem headC (b : Nat) (h : b < 256) : ∃ c r, aloneL b tellC = c :: r ∧ leftC c = false := by
  have := headC_all ⟨b, h⟩
  simp only at this
  split at this
  · rename_i c r e; exact ⟨c, r, e, by simpa using this⟩
  · cases this

end Go.Proofs.YtonlcnmlklaicaaGreatDoor
