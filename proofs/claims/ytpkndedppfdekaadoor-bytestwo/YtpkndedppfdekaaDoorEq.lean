/- '==' and '!=' on sets of bytes. -/
import Derived.Test.YtpkndedppfdekaaDoorPut
import Derived.Laws.StructEq
import Derived.ChangeKeysEq
namespace Go.Proofs.YtpkndedppfdekaaDoor
open Go.RowKit

theorem Tryd.info23 : (Tryd.prog.info? 23).map (fun i => (i.zero, i.size, i.bytes)) = some (some (.int .u64 0), 1, 8) := by kernel_rfl
theorem Tryd.cells23 : Tryd.prog.cellsOf 23 = 1 := by kernel_rfl
theorem equal4 (d a b c e a' b' c' e' : Nat) (w : World) :
    (Op.equalIn (d + 2) 25 (valB ⟨a, b, c, e⟩) (valB ⟨a', b', c', e'⟩)).run Tryd.prog w = .ok (decide ((⟨a, b, c, e⟩ : W4) = ⟨a', b', c', e'⟩)) w := by
  obtain ⟨i0, hi, hz0, hz1, hz2⟩ := info_parts Tryd.info23
  have p0 : ∀ x0 x1 x2 x3 : Int, (part 23 #[.int .u64 x0, .int .u64 x1, .int .u64 x2, .int .u64 x3] 0).run Tryd.prog w = .ok (.int .u64 x0) w := fun _ _ _ _ => by simp [part, isAgg, run_underlying Tryd.underlying23]
  have p1 : ∀ x0 x1 x2 x3 : Int, (part 23 #[.int .u64 x0, .int .u64 x1, .int .u64 x2, .int .u64 x3] 1).run Tryd.prog w = .ok (.int .u64 x1) w := fun _ _ _ _ => by simp [part, isAgg, run_underlying Tryd.underlying23]
  have p2 : ∀ x0 x1 x2 x3 : Int, (part 23 #[.int .u64 x0, .int .u64 x1, .int .u64 x2, .int .u64 x3] 2).run Tryd.prog w = .ok (.int .u64 x2) w := fun _ _ _ _ => by simp [part, isAgg, run_underlying Tryd.underlying23]
  have p3 : ∀ x0 x1 x2 x3 : Int, (part 23 #[.int .u64 x0, .int .u64 x1, .int .u64 x2, .int .u64 x3] 3).run Tryd.prog w = .ok (.int .u64 x3) w := fun _ _ _ _ => by simp [part, isAgg, run_underlying Tryd.underlying23]
  rw [run_equalIn_array w (d + 1) _ _ Tryd.underlying25 hi, Tryd.cells23, show List.range 4 = [0, 1, 2, 3] from rfl]
  simp only [Op.eqItems, Sem.run_bind, Nat.mul_one, p0, run_equalIn_int w d 23 .u64 .u64 _ _ Tryd.underlying23, Result.andThen_ok]
  by_cases h0 : a = a'
  · by_cases h1 : b = b'
    · by_cases h2 : c = c'
      · by_cases h3 : e = e'
        · subst h0 h1 h2 h3; simp [p1, p2, p3, run_equalIn_int w d 23 .u64 .u64 _ _ Tryd.underlying23]
        · subst h0 h1 h2; simp [h3, p1, p2, p3, run_equalIn_int w d 23 .u64 .u64 _ _ Tryd.underlying23]; omega
      · subst h0 h1; simp [h2, p1, p2, p3, run_equalIn_int w d 23 .u64 .u64 _ _ Tryd.underlying23]; omega
    · subst h0; simp [h1, p1, p2, p3, run_equalIn_int w d 23 .u64 .u64 _ _ Tryd.underlying23]; omega
  · simp [h0, p1, p2, p3, run_equalIn_int w d 23 .u64 .u64 _ _ Tryd.underlying23]; omega
theorem eql4 (S T : W4) (w : World) : (binOp .eql 25 (valB S) (valB T)).run Tryd.prog w = .ok (.bool (decide (S = T))) w := by
  obtain ⟨a, b, c, d⟩ := S
  obtain ⟨a', b', c', d'⟩ := T
  rw [run_eql_struct, equal4 9998]
  rfl
theorem neq4 (S T : W4) (w : World) : (binOp .neq 25 (valB S) (valB T)).run Tryd.prog w = .ok (.bool (!decide (S = T))) w := by
  obtain ⟨a, b, c, d⟩ := S
  obtain ⟨a', b', c', d'⟩ := T
  rw [run_neq_struct, equal4 9998]
  rfl

end Go.Proofs.YtpkndedppfdekaaDoor
