/- The contract of topiaryref04.Of: the least one that isn't told yet, again and again; of topiaryref04.Is. The contracts of topiaryref04.Union, Both, Less. A rule's spots as lists. The reference: spot, First, Last. -/
import Derived.Test.YtonlcnmlklaicaaGreatDoorJ9
import Derived.Test.YtonlcnmlklaicaaGreatDoorJ8
namespace Go.Proofs.YtonlcnmlklaicaaGreatDoor
open Go.RowKit

def Abv (out : List Int) (x : Int) : Prop := ∀ y ∈ out, y < x
structure Pre (out l : List Int) : Prop where
  up : Up out
  sub : ∀ x ∈ out, x ∈ l
  all : ∀ x ∈ l, x ∈ out ∨ Abv out x
structure Low (out l : List Int) (k : Nat) (f : Bool) (m : Int) : Prop where
  no : f = false → ∀ x ∈ l.take k, ¬ Abv out x
  yes : f = true → m ∈ l ∧ Abv out m ∧ ∀ x ∈ l.take k, Abv out x → m ≤ x

theorem Pre.start (l : List Int) : Pre [] l := ⟨List.Pairwise.nil, fun _ h => absurd h (List.not_mem_nil), fun _ _ => Or.inr fun _ h => absurd h (List.not_mem_nil)⟩
theorem Low.start (out l : List Int) : Low out l 0 false 0 := ⟨fun _ x h => absurd h (by simp), fun h => by cases h⟩
theorem mem_take_succ {l : List Int} {k : Nat} (h : k < l.length) (x : Int) : x ∈ l.take (k + 1) ↔ x ∈ l.take k ∨ x = l[k] := by
  rw [List.take_succ_eq_append_getElem h, List.mem_append, List.mem_singleton]
theorem Low.skip {out l : List Int} {k : Nat} {f : Bool} {m : Int} (h : Low out l k f m) (hk : k < l.length) (ha : ¬ Abv out l[k]) : Low out l (k + 1) f m :=
  ⟨fun hf x hx => by
    rcases (mem_take_succ hk x).1 hx with hx | rfl
    · exact h.no hf x hx
    · exact ha,
   fun hf => ⟨(h.yes hf).1, (h.yes hf).2.1, fun x hx hax => by
    rcases (mem_take_succ hk x).1 hx with hx | rfl
    · exact (h.yes hf).2.2 x hx hax
    · exact absurd hax ha⟩⟩
theorem Low.first {out l : List Int} {k : Nat} {m : Int} (h : Low out l k false m) (hk : k < l.length) (ha : Abv out l[k]) : Low out l (k + 1) true l[k] :=
  ⟨fun hf => (by cases hf), fun _ => ⟨List.getElem_mem hk, ha, fun x hx hax => by
    rcases (mem_take_succ hk x).1 hx with hx | rfl
    · exact absurd hax (h.no rfl x hx)
    · exact Int.le_refl _⟩⟩
theorem Low.less {out l : List Int} {k : Nat} {m : Int} (h : Low out l k true m) (hk : k < l.length) (ha : Abv out l[k]) (hm : l[k] < m) : Low out l (k + 1) true l[k] :=
  ⟨fun hf => (by cases hf), fun _ => ⟨List.getElem_mem hk, ha, fun x hx hax => by
    rcases (mem_take_succ hk x).1 hx with hx | rfl
    · have := (h.yes rfl).2.2 x hx hax; omega
    · exact Int.le_refl _⟩⟩
theorem Low.done {out l : List Int} {k : Nat} {m : Int} (h : Low out l k false m) (hk : ¬ k < l.length) (hp : Pre out l) : out = ofL l :=
  ofL_eq hp.up fun x => ⟨hp.sub x, fun hx => by
    rcases hp.all x hx with h1 | h1
    · exact h1
    · exact absurd h1 (h.no rfl x (by rwa [List.take_of_length_le (by omega)]))⟩
theorem Low.next {out l : List Int} {k : Nat} {m : Int} (h : Low out l k true m) (hk : ¬ k < l.length) (hp : Pre out l) : Pre (out ++ [m]) l := by
  obtain ⟨h1, h2, h3⟩ := h.yes rfl
  rw [List.take_of_length_le (by omega)] at h3
  refine ⟨List.pairwise_append.2 ⟨hp.up, List.pairwise_singleton _ _, fun y hy z hz => ?_⟩, fun x hx => ?_, fun x hx => ?_⟩
  · rw [List.mem_singleton] at hz; subst hz; exact h2 y hy
  · rcases List.mem_append.1 hx with hx | hx
    · exact hp.sub x hx
    · rw [List.mem_singleton] at hx; subst hx; exact h1
  · rcases hp.all x hx with e | e
    · exact Or.inl (List.mem_append_left _ e)
    · by_cases hxm : x = m
      · subst hxm; exact Or.inl (List.mem_append_right _ (List.mem_singleton.2 rfl))
      · refine Or.inr fun y hy => ?_
        rcases List.mem_append.1 hy with hy | hy
        · exact e y hy
        · rw [List.mem_singleton] at hy; subst hy
          have := h3 x hx e
          omega
theorem up_sub_len : ∀ {a b : List Int}, Up a → Up b → (∀ x ∈ a, x ∈ b) → a.length ≤ b.length
  | [], _, _, _, _ => Nat.zero_le _
  | x :: s, [], _, _, h => absurd (h x List.mem_cons_self) (List.not_mem_nil)
  | x :: s, y :: t, ha, hb, h => by
    rw [Up, List.pairwise_cons] at hb
    by_cases e : x = y
    · subst e
      rw [Up, List.pairwise_cons] at ha
      have := up_sub_len ha.2 hb.2 (fun z hz => by
        rcases List.mem_cons.1 (h z (List.mem_cons_of_mem _ hz)) with e | e
        · subst e; exact absurd (ha.1 _ hz) (by omega)
        · exact e)
      simp only [List.length_cons]; omega
    · have hx : x ∈ t := by
        rcases List.mem_cons.1 (h x List.mem_cons_self) with h1 | h1
        · exact absurd h1 e
        · exact h1
      have hyx := hb.1 x hx
      have := up_sub_len (a := x :: s) ha hb.2 (fun z hz => by
        rcases List.mem_cons.1 (h z hz) with h1 | h1
        · subst h1
          rcases List.mem_cons.1 hz with h2 | h2
          · omega
          · have := (List.pairwise_cons.1 ha).1 _ h2; omega
        · exact h1)
      simp only [List.length_cons] at this ⊢; omega
theorem Pre.len {out l : List Int} (h : Pre out l) : out.length ≤ l.length :=
  Nat.le_trans (up_sub_len h.up (ofL_up l) fun x hx => (ofL_mem x l).2 (h.sub x hx)) (ofL_len l)

end Go.Proofs.YtonlcnmlklaicaaGreatDoor
namespace Go.Proofs.YtonlcnmlklaicaaGreatDoor
open Go.RowKit

theorem Nums.lit1 (u : World) (a : Int) : Nums (u.alloc (.cells #[.int .i64 a] 3)) (.slice (some ⟨u.heap.size, 0, none⟩) 1 1) [a] := Nums.of_row (Own.lit1 u a)
end Go.Proofs.YtonlcnmlklaicaaGreatDoor
namespace Go.Proofs.YtonlcnmlklaicaaGreatDoor
open Go.RowKit

/-- how many of the cells are spots -/
def numS (l : List Cel) : Nat := l.countP fun c => c.op == 1
theorem numS_app (l m : List Cel) : numS (l ++ m) = numS l + numS m := List.countP_append
theorem numS_le (l : List Cel) : numS l ≤ l.length := List.countP_le_length
theorem numS_post : ∀ t : Rx, numS (post t) = nSets t
  | .set _ => rfl
  | .eps => rfl
  | .cat a b => by simp only [post, numS_app, numS_post a, numS_post b, nSets]; rfl
  | .or a b => by simp only [post, numS_app, numS_post a, numS_post b, nSets]; rfl
  | .star a => by simp only [post, numS_app, numS_post a, nSets]; rfl
  | .plus a => by simp only [post, numS_app, numS_post a, nSets]; rfl
  | .opt a => by simp only [post, numS_app, numS_post a, nSets]; rfl
/-- the spots with which a way begins, and ends -/
def firstL : Rx → Nat → List Int
  | .set _, n => [(n : Int)]
  | .eps, _ => []
  | .cat a b, n => if a.null then unionL (firstL a n) (firstL b (n + nSets a)) else firstL a n
  | .or a b, n => unionL (firstL a n) (firstL b (n + nSets a))
  | .star a, n => firstL a n
  | .plus a, n => firstL a n
  | .opt a, n => firstL a n
def lastL : Rx → Nat → List Int
  | .set _, n => [(n : Int)]
  | .eps, _ => []
  | .cat a b, n => if b.null then unionL (lastL b (n + nSets a)) (lastL a n) else lastL b (n + nSets a)
  | .or a b, n => unionL (lastL a n) (lastL b (n + nSets a))
  | .star a, n => lastL a n
  | .plus a, n => lastL a n
  | .opt a, n => lastL a n
theorem firstL_len : ∀ (t : Rx) (n : Nat), (firstL t n).length ≤ nSets t
  | .set _, _ => Nat.le_refl _
  | .eps, _ => Nat.le_refl _
  | .cat a b, n => by
    have h1 := firstL_len a n
    have h2 := firstL_len b (n + nSets a)
    have h3 := unionL_len (firstL a n) (firstL b (n + nSets a))
    show (firstL (.cat a b) n).length ≤ nSets a + nSets b
    rw [firstL]
    split <;> omega
  | .or a b, n => by
    have h1 := firstL_len a n
    have h2 := firstL_len b (n + nSets a)
    have h3 := unionL_len (firstL a n) (firstL b (n + nSets a))
    show (unionL (firstL a n) (firstL b (n + nSets a))).length ≤ nSets a + nSets b
    omega
  | .star a, n => firstL_len a n
  | .plus a, n => firstL_len a n
  | .opt a, n => firstL_len a n
theorem lastL_len : ∀ (t : Rx) (n : Nat), (lastL t n).length ≤ nSets t
  | .set _, _ => Nat.le_refl _
  | .eps, _ => Nat.le_refl _
  | .cat a b, n => by
    have h1 := lastL_len a n
    have h2 := lastL_len b (n + nSets a)
    have h3 := unionL_len (lastL b (n + nSets a)) (lastL a n)
    show (lastL (.cat a b) n).length ≤ nSets a + nSets b
    rw [lastL]
    split <;> omega
  | .or a b, n => by
    have h1 := lastL_len a n
    have h2 := lastL_len b (n + nSets a)
    have h3 := unionL_len (lastL a n) (lastL b (n + nSets a))
    show (unionL (lastL a n) (lastL b (n + nSets a))).length ≤ nSets a + nSets b
    omega
  | .star a, n => lastL_len a n
  | .plus a, n => lastL_len a n
  | .opt a, n => lastL_len a n
theorem nSets_le : ∀ t : Rx, nSets t ≤ (post t).length := fun t => by rw [← numS_post]; exact numS_le _
theorem firstL_up : ∀ (t : Rx) (n : Nat), Up (firstL t n)
  | .set _, _ => List.pairwise_singleton _ _
  | .eps, _ => List.Pairwise.nil
  | .cat a b, n => by
    unfold firstL
    split
    · exact ofL_up _
    · exact firstL_up a n
  | .or _ _, _ => ofL_up _
  | .star a, n => firstL_up a n
  | .plus a, n => firstL_up a n
  | .opt a, n => firstL_up a n
theorem firstL_mem : ∀ (t : Rx) (n : Nat) (x : Int), x ∈ firstL t n ↔ ∃ k : Nat, x = (k : Int) ∧ Fst t n k
  | .set S, n, x => by simp [firstL, Fst]
  | .eps, n, x => by simp [firstL, Fst]
  | .cat a b, n, x => by
    simp only [firstL, Fst]
    split
    · rename_i h
      rw [unionL_mem, firstL_mem a n x, firstL_mem b _ x]
      constructor
      · rintro (⟨k, h1, h2⟩ | ⟨k, h1, h2⟩)
        · exact ⟨k, h1, Or.inl h2⟩
        · exact ⟨k, h1, Or.inr ⟨h, h2⟩⟩
      · rintro ⟨k, h1, h2 | h2⟩
        · exact Or.inl ⟨k, h1, h2⟩
        · exact Or.inr ⟨k, h1, h2.2⟩
    · rename_i h
      rw [firstL_mem a n x]
      simp [h]
  | .or a b, n, x => by
    simp only [firstL, Fst]
    rw [unionL_mem, firstL_mem a n x, firstL_mem b _ x]
    constructor
    · rintro (⟨k, h1, h2⟩ | ⟨k, h1, h2⟩)
      · exact ⟨k, h1, Or.inl h2⟩
      · exact ⟨k, h1, Or.inr h2⟩
    · rintro ⟨k, h1, h2 | h2⟩
      · exact Or.inl ⟨k, h1, h2⟩
      · exact Or.inr ⟨k, h1, h2⟩
  | .star a, n, x => firstL_mem a n x
  | .plus a, n, x => firstL_mem a n x
  | .opt a, n, x => firstL_mem a n x
theorem lastL_mem : ∀ (t : Rx) (n : Nat) (x : Int), x ∈ lastL t n ↔ ∃ k : Nat, x = (k : Int) ∧ Lst t n k
  | .set S, n, x => by simp [lastL, Lst]
  | .eps, n, x => by simp [lastL, Lst]
  | .cat a b, n, x => by
    simp only [lastL, Lst]
    split
    · rename_i h
      rw [unionL_mem, lastL_mem a n x, lastL_mem b _ x]
      constructor
      · rintro (⟨k, h1, h2⟩ | ⟨k, h1, h2⟩)
        · exact ⟨k, h1, Or.inl h2⟩
        · exact ⟨k, h1, Or.inr ⟨h, h2⟩⟩
      · rintro ⟨k, h1, h2 | h2⟩
        · exact Or.inl ⟨k, h1, h2⟩
        · exact Or.inr ⟨k, h1, h2.2⟩
    · rename_i h
      rw [lastL_mem b _ x]
      simp [h]
  | .or a b, n, x => by
    simp only [lastL, Lst]
    rw [unionL_mem, lastL_mem a n x, lastL_mem b _ x]
    constructor
    · rintro (⟨k, h1, h2⟩ | ⟨k, h1, h2⟩)
      · exact ⟨k, h1, Or.inl h2⟩
      · exact ⟨k, h1, Or.inr h2⟩
    · rintro ⟨k, h1, h2 | h2⟩
      · exact Or.inl ⟨k, h1, h2⟩
      · exact Or.inr ⟨k, h1, h2⟩
  | .star a, n, x => lastL_mem a n x
  | .plus a, n, x => lastL_mem a n x
  | .opt a, n, x => lastL_mem a n x

end Go.Proofs.YtonlcnmlklaicaaGreatDoor
namespace Go.Proofs.YtonlcnmlklaicaaGreatDoor
open Go.RowKit

end Go.Proofs.YtonlcnmlklaicaaGreatDoor
