/- == and != on sets of bytes. -/
import Derived.Test.YtjiljfmejgiabaaCels
namespace Go.Proofs.Ytjiljfmejgiabaa
open Go.RowKit

theorem eql4 (S T : W4) (w : World) : (binOp .eql 31 (valB S) (valB T)).run Try.prog w = .ok (.bool (decide (S = T))) w := by
  obtain ⟨a, b, c, d⟩ := S
  obtain ⟨a', b', c', d'⟩ := T
  rw [run_eql_struct, equal4 9998]
  rfl
theorem neq4 (S T : W4) (w : World) : (binOp .neq 31 (valB S) (valB T)).run Try.prog w = .ok (.bool (!decide (S = T))) w := by
  obtain ⟨a, b, c, d⟩ := S
  obtain ⟨a', b', c', d'⟩ := T
  rw [run_neq_struct, equal4 9998]
  rfl


end Go.Proofs.Ytjiljfmejgiabaa
