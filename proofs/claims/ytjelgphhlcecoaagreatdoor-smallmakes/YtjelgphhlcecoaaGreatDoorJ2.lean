/- Rules as trees: what is right, where operands begin, what fits the empty text. Rules in memory: slices of cells. The table that bits.TrailingZeros64 reads. -/
import Derived.Test.YtjelgphhlcecoaaGreatDoorJ1
import Derived.Test.YtjelgphhlcecoaaGreatDoorCards
import Derived.Test.YtjelgphhlcecoaaGreatDoorTie
import Derived.Laws.StructEq
import Derived.ChangeKeysEq
import Derived.Deep.DeepHandedRow
import Derived.Lib.LaidTab
import Derived.Shelf.Spec.TrailingZeros
import Derived.MakeChecks
namespace Go.Proofs.YtjelgphhlcecoaaGreatDoor

structure Cel where
  op : Int
  s : W4
deriving DecidableEq
inductive Rx where
  | set (S : W4)
  | eps
  | cat (a b : Rx)
  | or (a b : Rx)
  | star (a : Rx)
  | plus (a : Rx)
  | opt (a : Rx)
/-- its cells -/
def post : Rx → List Cel
  | .set S => [⟨1, S⟩]
  | .eps => [⟨2, noneB⟩]
  | .cat a b => post a ++ (post b ++ [⟨3, noneB⟩])
  | .or a b => post a ++ (post b ++ [⟨4, noneB⟩])
  | .star a => post a ++ [⟨5, noneB⟩]
  | .plus a => post a ++ [⟨6, noneB⟩]
  | .opt a => post a ++ [⟨7, noneB⟩]
/-- no set is empty -/
def Rx.ok : Rx → Prop
  | .set S => S ≠ noneB
  | .eps => True
  | .cat a b => a.ok ∧ b.ok
  | .or a b => a.ok ∧ b.ok
  | .star a => a.ok
  | .plus a => a.ok
  | .opt a => a.ok
def Rx.null : Rx → Bool
  | .set _ => false
  | .eps => true
  | .cat a b => b.null && a.null
  | .or a b => b.null || a.null
  | .star _ => true
  | .plus a => a.null
  | .opt _ => true
def wants (op : Int) : Int := if op = 1 ∨ op = 2 then 0 else if op = 3 ∨ op = 4 then 2 else if 5 ≤ op ∧ op ≤ 7 then 1 else -1
def badC (d : Int) (c : Cel) : Bool := decide (wants c.op < 0) || decide (d < wants c.op) || (decide (c.s = noneB) == decide (c.op = 1))
/-- how many operands lie there behind so many cells; none, if one of them is wrong -/
def depthN (l : List Cel) : Nat → Option Int
  | 0 => some 0
  | k + 1 => match depthN l k, l[k]? with
    | some d, some c => if badC d c then none else some (d - wants c.op + 1)
    | _, _ => none
def rightB (l : List Cel) : Bool := decide (1 ≤ l.length) && decide (l.length ≤ 60) && decide (depthN l l.length = some 1)

theorem post_pos : ∀ t, 0 < (post t).length
  | .set _ => by simp [post]
  | .eps => by simp [post]
  | .cat a b => by simp [post]; omega
  | .or a b => by simp [post]; omega
  | .star a => by simp [post]
  | .plus a => by simp [post]
  | .opt a => by simp [post]
theorem wants_cases (op : Int) (h : 0 ≤ wants op) : (op = 1 ∧ wants op = 0) ∨ (op = 2 ∧ wants op = 0) ∨ (op = 3 ∧ wants op = 2) ∨ (op = 4 ∧ wants op = 2) ∨ (op = 5 ∧ wants op = 1) ∨ (op = 6 ∧ wants op = 1) ∨ (op = 7 ∧ wants op = 1) := by
  unfold wants at h ⊢
  split at h
  · rename_i h1; rcases h1 with rfl | rfl <;> simp
  · split at h
    · rename_i h1; rcases h1 with rfl | rfl <;> simp
    · split at h
      · rename_i h1
        have : op = 5 ∨ op = 6 ∨ op = 7 := by omega
        rcases this with rfl | rfl | rfl <;> simp
      · omega
/-- the cells of rules that lie one behind the other, the last first -/
def lain : List Rx → List Cel
  | [] => []
  | t :: st => lain st ++ post t
theorem depth_stack (l : List Cel) : ∀ k d, depthN l k = some d → k ≤ l.length ∧ ∃ st : List Rx, (st.length : Int) = d ∧ lain st = l.take k ∧ ∀ t ∈ st, t.ok
  | 0, d, h => by
    simp only [depthN, Option.some.injEq] at h
    subst h
    exact ⟨Nat.zero_le _, [], rfl, by simp [lain], fun t ht => absurd ht (List.not_mem_nil)⟩
  | k + 1, d, h => by
    unfold depthN at h
    split at h
    · rename_i d0 c h0 hc
      split at h
      · cases h
      · rename_i hb
        injection h with h
        obtain ⟨hk, st, hd, hla, hok⟩ := depth_stack l k d0 h0
        have hlt : k < l.length := by
          rcases Nat.lt_or_ge k l.length with h' | h'
          · exact h'
          · rw [List.getElem?_eq_none h'] at hc; cases hc
        have htk : l.take (k + 1) = l.take k ++ [c] := by
          rw [List.take_add_one, hc]; rfl
        refine ⟨hlt, ?_⟩
        simp only [badC, Bool.or_eq_true, decide_eq_true_eq, not_or, Int.not_lt, beq_iff_eq] at hb
        obtain ⟨⟨hw0, hw1⟩, hse⟩ := hb
        have hS : (c.s = noneB ↔ ¬ c.op = 1) := by
          by_cases e1 : c.s = noneB <;> by_cases e2 : c.op = 1 <;> simp [e1, e2] at hse ⊢
        have two : wants c.op = 2 → ∃ b a r, st = b :: a :: r := fun hw => by
          match st, hd with
          | [], hd => simp at hd; omega
          | [_], hd => simp at hd; omega
          | b :: a :: r, _ => exact ⟨b, a, r, rfl⟩
        have one : wants c.op = 1 → ∃ a r, st = a :: r := fun hw => by
          match st, hd with
          | [], hd => simp at hd; omega
          | a :: r, _ => exact ⟨a, r, rfl⟩
        obtain ⟨cop, cs⟩ := c
        simp only at h hw0 hw1 hS two one
        rcases wants_cases cop hw0 with ⟨rfl, hw⟩ | ⟨rfl, hw⟩ | ⟨rfl, hw⟩ | ⟨rfl, hw⟩ | ⟨rfl, hw⟩ | ⟨rfl, hw⟩ | ⟨rfl, hw⟩
        · refine ⟨.set cs :: st, by simp; omega, by rw [htk, ← hla]; rfl, fun t ht => ?_⟩
          rcases List.mem_cons.1 ht with rfl | ht
          · exact fun e => by simp [e] at hS
          · exact hok t ht
        · have : cs = noneB := hS.2 (by decide)
          subst this
          refine ⟨.eps :: st, by simp; omega, by rw [htk, ← hla]; rfl, fun t ht => ?_⟩
          rcases List.mem_cons.1 ht with rfl | ht
          · trivial
          · exact hok t ht
        · have : cs = noneB := hS.2 (by decide)
          subst this
          obtain ⟨b, a, r, rfl⟩ := two hw
          refine ⟨.cat a b :: r, by simp at hd ⊢; omega, by rw [htk, ← hla]; simp [lain, post], fun t ht => ?_⟩
          rcases List.mem_cons.1 ht with rfl | ht
          · exact ⟨hok a (by simp), hok b (by simp)⟩
          · exact hok t (by simp [ht])
        · have : cs = noneB := hS.2 (by decide)
          subst this
          obtain ⟨b, a, r, rfl⟩ := two hw
          refine ⟨.or a b :: r, by simp at hd ⊢; omega, by rw [htk, ← hla]; simp [lain, post], fun t ht => ?_⟩
          rcases List.mem_cons.1 ht with rfl | ht
          · exact ⟨hok a (by simp), hok b (by simp)⟩
          · exact hok t (by simp [ht])
        · have : cs = noneB := hS.2 (by decide)
          subst this
          obtain ⟨a, r, rfl⟩ := one hw
          refine ⟨.star a :: r, by simp at hd ⊢; omega, by rw [htk, ← hla]; simp [lain, post], fun t ht => ?_⟩
          rcases List.mem_cons.1 ht with rfl | ht
          · exact hok a (by simp)
          · exact hok t (by simp [ht])
        · have : cs = noneB := hS.2 (by decide)
          subst this
          obtain ⟨a, r, rfl⟩ := one hw
          refine ⟨.plus a :: r, by simp at hd ⊢; omega, by rw [htk, ← hla]; simp [lain, post], fun t ht => ?_⟩
          rcases List.mem_cons.1 ht with rfl | ht
          · exact hok a (by simp)
          · exact hok t (by simp [ht])
        · have : cs = noneB := hS.2 (by decide)
          subst this
          obtain ⟨a, r, rfl⟩ := one hw
          refine ⟨.opt a :: r, by simp at hd ⊢; omega, by rw [htk, ← hla]; simp [lain, post], fun t ht => ?_⟩
          rcases List.mem_cons.1 ht with rfl | ht
          · exact hok a (by simp)
          · exact hok t (by simp [ht])
    · cases h
/-- a right list of cells is some rule's -/
theorem right_tree {l : List Cel} (h : rightB l = true) : ∃ t : Rx, t.ok ∧ post t = l ∧ l.length ≤ 60 := by
  simp only [rightB, Bool.and_eq_true, decide_eq_true_eq] at h
  obtain ⟨⟨h1, h2⟩, h3⟩ := h
  obtain ⟨_, st, hd, hla, hok⟩ := depth_stack l l.length 1 h3
  match st, hd with
  | [t], _ => exact ⟨t, hok t (by simp), by rw [List.take_length] at hla; simpa [lain] using hla, h2⟩

theorem depth_app (l : List Cel) : ∀ (p : List Cel) (k : Nat) (suf : List Cel), l = p ++ suf → k ≤ p.length → depthN l k = depthN p k
  | p, 0, suf, _, _ => rfl
  | p, k + 1, suf, h, hk => by
    unfold depthN
    rw [depth_app l p k suf h (by omega), h, List.getElem?_append_left (by omega)]
/-- from 'so many' on, the cells of a rule add one -/
theorem depth_post : ∀ (t : Rx) (l pre suf : List Cel) (d : Int), t.ok → l = pre ++ (post t ++ suf) → depthN l pre.length = some d → 0 ≤ d → depthN l (pre.length + (post t).length) = some (d + 1)
  | .set S, l, pre, suf, d, ho, h, hd, h0 => by
    have hc : l[pre.length]? = some ⟨1, S⟩ := by rw [h]; simp [post]
    show depthN l (pre.length + 1) = _
    rw [depthN, hd, hc]
    have hS : S ≠ noneB := ho
    simp [badC, wants, hS]
    omega
  | .eps, l, pre, suf, d, ho, h, hd, h0 => by
    have hc : l[pre.length]? = some ⟨2, noneB⟩ := by rw [h]; simp [post]
    show depthN l (pre.length + 1) = _
    rw [depthN, hd, hc]
    simp [badC, wants]
    omega
  | .cat a b, l, pre, suf, d, ho, h, hd, h0 => by
    have h1 := depth_post a l pre (post b ++ (⟨3, noneB⟩ :: suf)) d ho.1 (by rw [h]; simp [post]) hd h0
    have h2 := depth_post b l (pre ++ post a) (⟨3, noneB⟩ :: suf) (d + 1) ho.2 (by rw [h]; simp [post]) (by rw [List.length_append]; exact h1) (by omega)
    have hc : l[(pre ++ post a).length + (post b).length]? = some ⟨3, noneB⟩ := by
      rw [h, show pre ++ (post (.cat a b) ++ suf) = (pre ++ post a ++ post b) ++ (⟨3, noneB⟩ :: suf) by simp [post], ← List.length_append]
      simp
    show depthN l (pre.length + (post a ++ (post b ++ [(⟨3, noneB⟩ : Cel)])).length) = _
    rw [show pre.length + (post a ++ (post b ++ [(⟨3, noneB⟩ : Cel)])).length = (pre ++ post a).length + (post b).length + 1 by simp; omega, depthN, h2, hc]
    have : ¬ d + 1 + 1 < 2 := by omega
    simp [badC, wants, this]
    omega
  | .or a b, l, pre, suf, d, ho, h, hd, h0 => by
    have h1 := depth_post a l pre (post b ++ (⟨4, noneB⟩ :: suf)) d ho.1 (by rw [h]; simp [post]) hd h0
    have h2 := depth_post b l (pre ++ post a) (⟨4, noneB⟩ :: suf) (d + 1) ho.2 (by rw [h]; simp [post]) (by rw [List.length_append]; exact h1) (by omega)
    have hc : l[(pre ++ post a).length + (post b).length]? = some ⟨4, noneB⟩ := by
      rw [h, show pre ++ (post (.or a b) ++ suf) = (pre ++ post a ++ post b) ++ (⟨4, noneB⟩ :: suf) by simp [post], ← List.length_append]
      simp
    show depthN l (pre.length + (post a ++ (post b ++ [(⟨4, noneB⟩ : Cel)])).length) = _
    rw [show pre.length + (post a ++ (post b ++ [(⟨4, noneB⟩ : Cel)])).length = (pre ++ post a).length + (post b).length + 1 by simp; omega, depthN, h2, hc]
    have : ¬ d + 1 + 1 < 2 := by omega
    simp [badC, wants, this]
    omega
  | .star a, l, pre, suf, d, ho, h, hd, h0 => by
    have h1 := depth_post a l pre (⟨5, noneB⟩ :: suf) d ho (by rw [h]; simp [post]) hd h0
    have hc : l[pre.length + (post a).length]? = some ⟨5, noneB⟩ := by
      rw [h, show pre ++ (post (.star a) ++ suf) = (pre ++ post a) ++ (⟨5, noneB⟩ :: suf) by simp [post], ← List.length_append]
      simp
    show depthN l (pre.length + (post a ++ [(⟨5, noneB⟩ : Cel)]).length) = _
    rw [show pre.length + (post a ++ [(⟨5, noneB⟩ : Cel)]).length = pre.length + (post a).length + 1 by simp; omega, depthN, h1, hc]
    have : ¬ d + 1 < 1 := by omega
    simp [badC, wants, this]
  | .plus a, l, pre, suf, d, ho, h, hd, h0 => by
    have h1 := depth_post a l pre (⟨6, noneB⟩ :: suf) d ho (by rw [h]; simp [post]) hd h0
    have hc : l[pre.length + (post a).length]? = some ⟨6, noneB⟩ := by
      rw [h, show pre ++ (post (.plus a) ++ suf) = (pre ++ post a) ++ (⟨6, noneB⟩ :: suf) by simp [post], ← List.length_append]
      simp
    show depthN l (pre.length + (post a ++ [(⟨6, noneB⟩ : Cel)]).length) = _
    rw [show pre.length + (post a ++ [(⟨6, noneB⟩ : Cel)]).length = pre.length + (post a).length + 1 by simp; omega, depthN, h1, hc]
    have : ¬ d + 1 < 1 := by omega
    simp [badC, wants, this]
  | .opt a, l, pre, suf, d, ho, h, hd, h0 => by
    have h1 := depth_post a l pre (⟨7, noneB⟩ :: suf) d ho (by rw [h]; simp [post]) hd h0
    have hc : l[pre.length + (post a).length]? = some ⟨7, noneB⟩ := by
      rw [h, show pre ++ (post (.opt a) ++ suf) = (pre ++ post a) ++ (⟨7, noneB⟩ :: suf) by simp [post], ← List.length_append]
      simp
    show depthN l (pre.length + (post a ++ [(⟨7, noneB⟩ : Cel)]).length) = _
    rw [show pre.length + (post a ++ [(⟨7, noneB⟩ : Cel)]).length = pre.length + (post a).length + 1 by simp; omega, depthN, h1, hc]
    have : ¬ d + 1 < 1 := by omega
    simp [badC, wants, this]
theorem right_post {t : Rx} (ho : t.ok) (hl : (post t).length ≤ 60) : rightB (post t) = true := by
  have h := depth_post t (post t) [] [] 0 ho (by simp) rfl (by omega)
  simp only [List.length_nil, Nat.zero_add] at h
  have := post_pos t
  simp [rightB, h, hl]
  omega

end Go.Proofs.YtjelgphhlcecoaaGreatDoor
namespace Go.Proofs.YtjelgphhlcecoaaGreatDoor
open Go.RowKit

structure FitC (c : Cel) : Prop where
  lo : -9223372036854775808 ≤ c.op
  hi : c.op ≤ 9223372036854775807
  s : Fit4 c.s
/-- a cell lies at a place -/
def At5 (w : World) (b o : Nat) (c : Cel) : Prop := w.cell? ⟨b, o, none⟩ = some (.int .i64 c.op) ∧ w.cell? ⟨b, o + 1, none⟩ = some (.int .u64 (c.s.a : Int)) ∧ w.cell? ⟨b, o + 2, none⟩ = some (.int .u64 (c.s.b : Int)) ∧ w.cell? ⟨b, o + 3, none⟩ = some (.int .u64 (c.s.c : Int)) ∧ w.cell? ⟨b, o + 4, none⟩ = some (.int .u64 (c.s.d : Int))
theorem keep_cell {u w1 : World} (hb : Below u.heap.size u w1) {b o : Nat} {v : Value} (h : u.cell? ⟨b, o, none⟩ = some v) : w1.cell? ⟨b, o, none⟩ = some v :=
  (World.cell?_of_block (hb.block b (World.block_lt_of_cell? u _ h))).trans h
theorem At5.keep {w w' : World} {b o : Nat} {c : Cel} (h : At5 w b o c) (hb : Below w.heap.size w w') : At5 w' b o c := ⟨keep_cell hb h.1, keep_cell hb h.2.1, keep_cell hb h.2.2.1, keep_cell hb h.2.2.2.1, keep_cell hb h.2.2.2.2⟩
/-- a slice holds these cells, wherever it lies -/
def Cels (w : World) (v : Value) (l : List Cel) : Prop := ∃ a cap, v = .slice a l.length cap ∧ l.length ≤ cap ∧ (a = none → cap = 0) ∧ (∀ c ∈ l, FitC c) ∧ ∀ j (h : j < l.length), ∃ b o, a = some ⟨b, o, none⟩ ∧ b < w.heap.size ∧ At5 w b (o + j * 5) l[j]
theorem Cels.keep {w w' : World} {v : Value} {l : List Cel} (h : Cels w v l) (hb : Below w.heap.size w w') : Cels w' v l := by
  obtain ⟨a, cap, hv, hc, hn, hf, hat⟩ := h
  refine ⟨a, cap, hv, hc, hn, hf, fun j hj => ?_⟩
  obtain ⟨b, o, ha, hlt, h5⟩ := hat j hj
  exact ⟨b, o, ha, Nat.lt_of_lt_of_le hlt hb.size, h5.keep hb⟩

set_option maxRecDepth 20000 in
theorem Tryz.info95 : (Tryz.prog.info? 95).map (fun i => (i.zero, i.size, i.bytes)) = some (some (.int .u64 0), 1, 8) := by kernel_rfl
set_option maxRecDepth 20000 in
theorem Tryz.cells95 : Tryz.prog.cellsOf 95 = 1 := by kernel_rfl
set_option maxRecDepth 20000 in
theorem equal4 (d a b c e a' b' c' e' : Nat) (w : World) :
    (Op.equalIn (d + 2) 97 (valB ⟨a, b, c, e⟩) (valB ⟨a', b', c', e'⟩)).run Tryz.prog w = .ok (decide ((⟨a, b, c, e⟩ : W4) = ⟨a', b', c', e'⟩)) w := by
  obtain ⟨i0, hi, hz0, hz1, hz2⟩ := info_parts Tryz.info95
  have p0 : ∀ x0 x1 x2 x3 : Int, (part 95 #[.int .u64 x0, .int .u64 x1, .int .u64 x2, .int .u64 x3] 0).run Tryz.prog w = .ok (.int .u64 x0) w := fun _ _ _ _ => by simp [part, isAgg, run_underlying Tryz.underlying95]
  have p1 : ∀ x0 x1 x2 x3 : Int, (part 95 #[.int .u64 x0, .int .u64 x1, .int .u64 x2, .int .u64 x3] 1).run Tryz.prog w = .ok (.int .u64 x1) w := fun _ _ _ _ => by simp [part, isAgg, run_underlying Tryz.underlying95]
  have p2 : ∀ x0 x1 x2 x3 : Int, (part 95 #[.int .u64 x0, .int .u64 x1, .int .u64 x2, .int .u64 x3] 2).run Tryz.prog w = .ok (.int .u64 x2) w := fun _ _ _ _ => by simp [part, isAgg, run_underlying Tryz.underlying95]
  have p3 : ∀ x0 x1 x2 x3 : Int, (part 95 #[.int .u64 x0, .int .u64 x1, .int .u64 x2, .int .u64 x3] 3).run Tryz.prog w = .ok (.int .u64 x3) w := fun _ _ _ _ => by simp [part, isAgg, run_underlying Tryz.underlying95]
  rw [run_equalIn_array w (d + 1) _ _ Tryz.underlying97 hi, Tryz.cells95, show List.range 4 = [0, 1, 2, 3] from rfl]
  simp only [Op.eqItems, Sem.run_bind, Nat.mul_one, p0, run_equalIn_int w d 95 .u64 .u64 _ _ Tryz.underlying95, Result.andThen_ok]
  by_cases h0 : a = a'
  · by_cases h1 : b = b'
    · by_cases h2 : c = c'
      · by_cases h3 : e = e'
        · subst h0 h1 h2 h3; simp [p1, p2, p3, run_equalIn_int w d 95 .u64 .u64 _ _ Tryz.underlying95]
        · subst h0 h1 h2; simp [h3, p1, p2, p3, run_equalIn_int w d 95 .u64 .u64 _ _ Tryz.underlying95]; omega
      · subst h0 h1; simp [h2, p1, p2, p3, run_equalIn_int w d 95 .u64 .u64 _ _ Tryz.underlying95]; omega
    · subst h0; simp [h1, p1, p2, p3, run_equalIn_int w d 95 .u64 .u64 _ _ Tryz.underlying95]; omega
  · simp [h0, p1, p2, p3, run_equalIn_int w d 95 .u64 .u64 _ _ Tryz.underlying95]; omega

end Go.Proofs.YtjelgphhlcecoaaGreatDoor
namespace Go.Proofs.YtjelgphhlcecoaaGreatDoor
open Go.ChangeShapes Go.WideShapes Go.ChangeAt Go.RowKit

set_option maxRecDepth 20000 in
theorem gTab : Tryz.prog.globalNamed "math/bits.deBruijn64tab" = some 0 := by kernel_rfl
set_option maxRecDepth 20000 in
theorem gTabType : (Tryz.prog.globals[0]?).map (·.type) = some 143 := by kernel_rfl
set_option maxRecDepth 20000 in
theorem cellsTab : Tryz.prog.cellsOf 143 = 64 := by kernel_rfl
set_option maxRecDepth 20000 in
theorem cellsU8 : Tryz.prog.cellsOf 5 = 1 := by kernel_rfl
/-- the table lies as its initialiser lays it -/
def Tab (w : World) : Prop := TabAt 0 Lib.deBruijn64tab w
theorem Tab.keep {u u' : World} (h : Tab u) (hb : Below u.heap.size u u') : Tab u' := fun j hj => keep_cell hb (h j hj)
theorem laid_tab : (Rows.laid_math_bits_deBruijn64tab : DataW Unit) = Lib.tabData .u8 (Lib.deBruijn64tab.map fun (n : Nat) => (n : Int)) := by rfl
set_option maxRecDepth 20000 in
theorem table {W : World} (h : laidMetH Tryz.prog [("math/bits.deBruijn64tab", Rows.laid_math_bits_deBruijn64tab)] W) : Tab W := by
  rw [MakeChecks.laidMetH_plain _ _ _ (by kernel_rfl)] at h
  rw [laid_tab] at h
  have hT := Lib.tabIs_of_head (rest := []) gTab gTabType Tryz.underlying143 Tryz.underlying5 cellsU8 cellsTab h
  intro j hj
  rw [hT.cell gTab j (by simpa using hj)]
  simp [List.getD, List.getElem?_map, List.getElem?_eq_getElem hj]
def tab0 : Array Value := #[.int .u8 0, .int .u8 1, .int .u8 56, .int .u8 2, .int .u8 57, .int .u8 49, .int .u8 28, .int .u8 3, .int .u8 61, .int .u8 58, .int .u8 42, .int .u8 50, .int .u8 38, .int .u8 29, .int .u8 17, .int .u8 4, .int .u8 62, .int .u8 47, .int .u8 59, .int .u8 36, .int .u8 45, .int .u8 43, .int .u8 51, .int .u8 22, .int .u8 53, .int .u8 39, .int .u8 33, .int .u8 30, .int .u8 24, .int .u8 18, .int .u8 12, .int .u8 5, .int .u8 63, .int .u8 55, .int .u8 48, .int .u8 27, .int .u8 60, .int .u8 41, .int .u8 37, .int .u8 16, .int .u8 46, .int .u8 35, .int .u8 44, .int .u8 21, .int .u8 52, .int .u8 32, .int .u8 23, .int .u8 11, .int .u8 54, .int .u8 26, .int .u8 40, .int .u8 15, .int .u8 34, .int .u8 20, .int .u8 31, .int .u8 10, .int .u8 25, .int .u8 14, .int .u8 19, .int .u8 9, .int .u8 13, .int .u8 8, .int .u8 7, .int .u8 6]
def putTab (cs : Array Value) : Obj → Obj
  | .cells _ t frozen => .cells cs t frozen
  | o => o
/-- a world for the witness: the settled one, the table holding what its initialiser lays -/
noncomputable def laidWorld (os : Os) : World :=
  { World.holding Tryz.prog os ⟨#[], #[], []⟩ with heap := (World.holding Tryz.prog os ⟨#[], #[], []⟩).heap.modify 0 (putTab tab0) }

end Go.Proofs.YtjelgphhlcecoaaGreatDoor
