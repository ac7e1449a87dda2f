/- Rules as trees: what is right, where operands begin, what fits the empty text. -/
import Derived.Test.YtjiljfmejgiabaaMath
namespace Go.Proofs.Ytjiljfmejgiabaa

structure Cel where
  op : Int
  s : W4
deriving DecidableEq
inductive Rx where
  | set (S : W4)
  | eps
  | cat (a b : Rx)
  | or (a b : Rx)
  | star (a : Rx)
  | plus (a : Rx)
  | opt (a : Rx)
/-- its cells -/
def post : Rx → List Cel
  | .set S => [⟨1, S⟩]
  | .eps => [⟨2, noneB⟩]
  | .cat a b => post a ++ (post b ++ [⟨3, noneB⟩])
  | .or a b => post a ++ (post b ++ [⟨4, noneB⟩])
  | .star a => post a ++ [⟨5, noneB⟩]
  | .plus a => post a ++ [⟨6, noneB⟩]
  | .opt a => post a ++ [⟨7, noneB⟩]
/-- no set is empty -/
def Rx.ok : Rx → Prop
  | .set S => S ≠ noneB
  | .eps => True
  | .cat a b => a.ok ∧ b.ok
  | .or a b => a.ok ∧ b.ok
  | .star a => a.ok
  | .plus a => a.ok
  | .opt a => a.ok
def Rx.null : Rx → Bool
  | .set _ => false
  | .eps => true
  | .cat a b => b.null && a.null
  | .or a b => b.null || a.null
  | .star _ => true
  | .plus a => a.null
  | .opt _ => true
def wants (op : Int) : Int := if op = 1 ∨ op = 2 then 0 else if op = 3 ∨ op = 4 then 2 else if 5 ≤ op ∧ op ≤ 7 then 1 else -1
def badC (d : Int) (c : Cel) : Bool := decide (wants c.op < 0) || decide (d < wants c.op) || (decide (c.s = noneB) == decide (c.op = 1))
/-- how many operands lie there behind so many cells; none, if one of them is wrong -/
def depthN (l : List Cel) : Nat → Option Int
  | 0 => some 0
  | k + 1 => match depthN l k, l[k]? with
    | some d, some c => if badC d c then none else some (d - wants c.op + 1)
    | _, _ => none
def rightB (l : List Cel) : Bool := decide (1 ≤ l.length) && decide (l.length ≤ 60) && decide (depthN l l.length = some 1)

theorem post_pos : ∀ t, 0 < (post t).length
  | .set _ => by simp [post]
  | .eps => by simp [post]
  | .cat a b => by simp [post]; omega
  | .or a b => by simp [post]; omega
  | .star a => by simp [post]
  | .plus a => by simp [post]
  | .opt a => by simp [post]
theorem wants_cases (op : Int) (h : 0 ≤ wants op) : (op = 1 ∧ wants op = 0) ∨ (op = 2 ∧ wants op = 0) ∨ (op = 3 ∧ wants op = 2) ∨ (op = 4 ∧ wants op = 2) ∨ (op = 5 ∧ wants op = 1) ∨ (op = 6 ∧ wants op = 1) ∨ (op = 7 ∧ wants op = 1) := by
  unfold wants at h ⊢
  split at h
  · rename_i h1; rcases h1 with rfl | rfl <;> simp
  · split at h
    · rename_i h1; rcases h1 with rfl | rfl <;> simp
    · split at h
      · rename_i h1
        have : op = 5 ∨ op = 6 ∨ op = 7 := by omega
        rcases this with rfl | rfl | rfl <;> simp
      · omega
/-- the cells of rules that lie one behind the other, the last first -/
def lain : List Rx → List Cel
  | [] => []
  | t :: st => lain st ++ post t
theorem depth_stack (l : List Cel) : ∀ k d, depthN l k = some d → k ≤ l.length ∧ ∃ st : List Rx, (st.length : Int) = d ∧ lain st = l.take k ∧ ∀ t ∈ st, t.ok
  | 0, d, h => by
    simp only [depthN, Option.some.injEq] at h
    subst h
    exact ⟨Nat.zero_le _, [], rfl, by simp [lain], fun t ht => absurd ht (List.not_mem_nil)⟩
  | k + 1, d, h => by
    unfold depthN at h
    split at h
    · rename_i d0 c h0 hc
      split at h
      · cases h
      · rename_i hb
        injection h with h
        obtain ⟨hk, st, hd, hla, hok⟩ := depth_stack l k d0 h0
        have hlt : k < l.length := by
          rcases Nat.lt_or_ge k l.length with h' | h'
          · exact h'
          · rw [List.getElem?_eq_none h'] at hc; cases hc
        have htk : l.take (k + 1) = l.take k ++ [c] := by
          rw [List.take_add_one, hc]; rfl
        refine ⟨hlt, ?_⟩
        simp only [badC, Bool.or_eq_true, decide_eq_true_eq, not_or, Int.not_lt, beq_iff_eq] at hb
        obtain ⟨⟨hw0, hw1⟩, hse⟩ := hb
        have hS : (c.s = noneB ↔ ¬ c.op = 1) := by
          by_cases e1 : c.s = noneB <;> by_cases e2 : c.op = 1 <;> simp [e1, e2] at hse ⊢
        have two : wants c.op = 2 → ∃ b a r, st = b :: a :: r := fun hw => by
          match st, hd with
          | [], hd => simp at hd; omega
          | [_], hd => simp at hd; omega
          | b :: a :: r, _ => exact ⟨b, a, r, rfl⟩
        have one : wants c.op = 1 → ∃ a r, st = a :: r := fun hw => by
          match st, hd with
          | [], hd => simp at hd; omega
          | a :: r, _ => exact ⟨a, r, rfl⟩
        obtain ⟨cop, cs⟩ := c
        simp only at h hw0 hw1 hS two one
        rcases wants_cases cop hw0 with ⟨rfl, hw⟩ | ⟨rfl, hw⟩ | ⟨rfl, hw⟩ | ⟨rfl, hw⟩ | ⟨rfl, hw⟩ | ⟨rfl, hw⟩ | ⟨rfl, hw⟩
        · refine ⟨.set cs :: st, by simp; omega, by rw [htk, ← hla]; rfl, fun t ht => ?_⟩
          rcases List.mem_cons.1 ht with rfl | ht
          · exact fun e => by simp [e] at hS
          · exact hok t ht
        · have : cs = noneB := hS.2 (by decide)
          subst this
          refine ⟨.eps :: st, by simp; omega, by rw [htk, ← hla]; rfl, fun t ht => ?_⟩
          rcases List.mem_cons.1 ht with rfl | ht
          · trivial
          · exact hok t ht
        · have : cs = noneB := hS.2 (by decide)
          subst this
          obtain ⟨b, a, r, rfl⟩ := two hw
          refine ⟨.cat a b :: r, by simp at hd ⊢; omega, by rw [htk, ← hla]; simp [lain, post], fun t ht => ?_⟩
          rcases List.mem_cons.1 ht with rfl | ht
          · exact ⟨hok a (by simp), hok b (by simp)⟩
          · exact hok t (by simp [ht])
        · have : cs = noneB := hS.2 (by decide)
          subst this
          obtain ⟨b, a, r, rfl⟩ := two hw
          refine ⟨.or a b :: r, by simp at hd ⊢; omega, by rw [htk, ← hla]; simp [lain, post], fun t ht => ?_⟩
          rcases List.mem_cons.1 ht with rfl | ht
          · exact ⟨hok a (by simp), hok b (by simp)⟩
          · exact hok t (by simp [ht])
        · have : cs = noneB := hS.2 (by decide)
          subst this
          obtain ⟨a, r, rfl⟩ := one hw
          refine ⟨.star a :: r, by simp at hd ⊢; omega, by rw [htk, ← hla]; simp [lain, post], fun t ht => ?_⟩
          rcases List.mem_cons.1 ht with rfl | ht
          · exact hok a (by simp)
          · exact hok t (by simp [ht])
        · have : cs = noneB := hS.2 (by decide)
          subst this
          obtain ⟨a, r, rfl⟩ := one hw
          refine ⟨.plus a :: r, by simp at hd ⊢; omega, by rw [htk, ← hla]; simp [lain, post], fun t ht => ?_⟩
          rcases List.mem_cons.1 ht with rfl | ht
          · exact hok a (by simp)
          · exact hok t (by simp [ht])
        · have : cs = noneB := hS.2 (by decide)
          subst this
          obtain ⟨a, r, rfl⟩ := one hw
          refine ⟨.opt a :: r, by simp at hd ⊢; omega, by rw [htk, ← hla]; simp [lain, post], fun t ht => ?_⟩
          rcases List.mem_cons.1 ht with rfl | ht
          · exact hok a (by simp)
          · exact hok t (by simp [ht])
    · cases h
/-- a right list of cells is some rule's -/
theorem right_tree {l : List Cel} (h : rightB l = true) : ∃ t : Rx, t.ok ∧ post t = l ∧ l.length ≤ 60 := by
  simp only [rightB, Bool.and_eq_true, decide_eq_true_eq] at h
  obtain ⟨⟨h1, h2⟩, h3⟩ := h
  obtain ⟨_, st, hd, hla, hok⟩ := depth_stack l l.length 1 h3
  match st, hd with
  | [t], _ => exact ⟨t, hok t (by simp), by rw [List.take_length] at hla; simpa [lain] using hla, h2⟩

theorem depth_app (l : List Cel) : ∀ (p : List Cel) (k : Nat) (suf : List Cel), l = p ++ suf → k ≤ p.length → depthN l k = depthN p k
  | p, 0, suf, _, _ => rfl
  | p, k + 1, suf, h, hk => by
    unfold depthN
    rw [depth_app l p k suf h (by omega), h, List.getElem?_append_left (by omega)]
/-- from 'so many' on, the cells of a rule add one -/
theorem depth_post : ∀ (t : Rx) (l pre suf : List Cel) (d : Int), t.ok → l = pre ++ (post t ++ suf) → depthN l pre.length = some d → 0 ≤ d → depthN l (pre.length + (post t).length) = some (d + 1)
  | .set S, l, pre, suf, d, ho, h, hd, h0 => by
    have hc : l[pre.length]? = some ⟨1, S⟩ := by rw [h]; simp [post]
    show depthN l (pre.length + 1) = _
    rw [depthN, hd, hc]
    have hS : S ≠ noneB := ho
    simp [badC, wants, hS]
    omega
  | .eps, l, pre, suf, d, ho, h, hd, h0 => by
    have hc : l[pre.length]? = some ⟨2, noneB⟩ := by rw [h]; simp [post]
    show depthN l (pre.length + 1) = _
    rw [depthN, hd, hc]
    simp [badC, wants]
    omega
  | .cat a b, l, pre, suf, d, ho, h, hd, h0 => by
    have h1 := depth_post a l pre (post b ++ (⟨3, noneB⟩ :: suf)) d ho.1 (by rw [h]; simp [post]) hd h0
    have h2 := depth_post b l (pre ++ post a) (⟨3, noneB⟩ :: suf) (d + 1) ho.2 (by rw [h]; simp [post]) (by rw [List.length_append]; exact h1) (by omega)
    have hc : l[(pre ++ post a).length + (post b).length]? = some ⟨3, noneB⟩ := by
      rw [h, show pre ++ (post (.cat a b) ++ suf) = (pre ++ post a ++ post b) ++ (⟨3, noneB⟩ :: suf) by simp [post], ← List.length_append]
      simp
    show depthN l (pre.length + (post a ++ (post b ++ [(⟨3, noneB⟩ : Cel)])).length) = _
    rw [show pre.length + (post a ++ (post b ++ [(⟨3, noneB⟩ : Cel)])).length = (pre ++ post a).length + (post b).length + 1 by simp; omega, depthN, h2, hc]
    have : ¬ d + 1 + 1 < 2 := by omega
    simp [badC, wants, this]
    omega
  | .or a b, l, pre, suf, d, ho, h, hd, h0 => by
    have h1 := depth_post a l pre (post b ++ (⟨4, noneB⟩ :: suf)) d ho.1 (by rw [h]; simp [post]) hd h0
    have h2 := depth_post b l (pre ++ post a) (⟨4, noneB⟩ :: suf) (d + 1) ho.2 (by rw [h]; simp [post]) (by rw [List.length_append]; exact h1) (by omega)
    have hc : l[(pre ++ post a).length + (post b).length]? = some ⟨4, noneB⟩ := by
      rw [h, show pre ++ (post (.or a b) ++ suf) = (pre ++ post a ++ post b) ++ (⟨4, noneB⟩ :: suf) by simp [post], ← List.length_append]
      simp
    show depthN l (pre.length + (post a ++ (post b ++ [(⟨4, noneB⟩ : Cel)])).length) = _
    rw [show pre.length + (post a ++ (post b ++ [(⟨4, noneB⟩ : Cel)])).length = (pre ++ post a).length + (post b).length + 1 by simp; omega, depthN, h2, hc]
    have : ¬ d + 1 + 1 < 2 := by omega
    simp [badC, wants, this]
    omega
  | .star a, l, pre, suf, d, ho, h, hd, h0 => by
    have h1 := depth_post a l pre (⟨5, noneB⟩ :: suf) d ho (by rw [h]; simp [post]) hd h0
    have hc : l[pre.length + (post a).length]? = some ⟨5, noneB⟩ := by
      rw [h, show pre ++ (post (.star a) ++ suf) = (pre ++ post a) ++ (⟨5, noneB⟩ :: suf) by simp [post], ← List.length_append]
      simp
    show depthN l (pre.length + (post a ++ [(⟨5, noneB⟩ : Cel)]).length) = _
    rw [show pre.length + (post a ++ [(⟨5, noneB⟩ : Cel)]).length = pre.length + (post a).length + 1 by simp; omega, depthN, h1, hc]
    have : ¬ d + 1 < 1 := by omega
    simp [badC, wants, this]
  | .plus a, l, pre, suf, d, ho, h, hd, h0 => by
    have h1 := depth_post a l pre (⟨6, noneB⟩ :: suf) d ho (by rw [h]; simp [post]) hd h0
    have hc : l[pre.length + (post a).length]? = some ⟨6, noneB⟩ := by
      rw [h, show pre ++ (post (.plus a) ++ suf) = (pre ++ post a) ++ (⟨6, noneB⟩ :: suf) by simp [post], ← List.length_append]
      simp
    show depthN l (pre.length + (post a ++ [(⟨6, noneB⟩ : Cel)]).length) = _
    rw [show pre.length + (post a ++ [(⟨6, noneB⟩ : Cel)]).length = pre.length + (post a).length + 1 by simp; omega, depthN, h1, hc]
    have : ¬ d + 1 < 1 := by omega
    simp [badC, wants, this]
  | .opt a, l, pre, suf, d, ho, h, hd, h0 => by
    have h1 := depth_post a l pre (⟨7, noneB⟩ :: suf) d ho (by rw [h]; simp [post]) hd h0
    have hc : l[pre.length + (post a).length]? = some ⟨7, noneB⟩ := by
      rw [h, show pre ++ (post (.opt a) ++ suf) = (pre ++ post a) ++ (⟨7, noneB⟩ :: suf) by simp [post], ← List.length_append]
      simp
    show depthN l (pre.length + (post a ++ [(⟨7, noneB⟩ : Cel)]).length) = _
    rw [show pre.length + (post a ++ [(⟨7, noneB⟩ : Cel)]).length = pre.length + (post a).length + 1 by simp; omega, depthN, h1, hc]
    have : ¬ d + 1 < 1 := by omega
    simp [badC, wants, this]
theorem right_post {t : Rx} (ho : t.ok) (hl : (post t).length ≤ 60) : rightB (post t) = true := by
  have h := depth_post t (post t) [] [] 0 ho (by simp) rfl (by omega)
  simp only [List.length_nil, Nat.zero_add] at h
  have := post_pos t
  simp [rightB, h, hl]
  omega

end Go.Proofs.Ytjiljfmejgiabaa
