/- What is in both, and what is in each alone, share nothing, and make up what is in either. -/
import Derived.Test.YtklfcjgambdncaaMath
namespace Go.Proofs.Ytklfcjgambdncaa

theorem nil_of_none {l : List Int} (h : ∀ x, ¬ x ∈ l) : l = [] := List.eq_nil_iff_forall_not_mem.2 h
theorem parts_xy (a b : List Int) : bothL (bothL a b) (lessL a b) = [] := nil_of_none fun x h => by
  rw [bothL_mem, bothL_mem, lessL_mem] at h
  exact h.2.2 h.1.2
theorem parts_xz (a b : List Int) : bothL (bothL a b) (lessL b a) = [] := nil_of_none fun x h => by
  rw [bothL_mem, bothL_mem, lessL_mem] at h
  exact h.2.2 h.1.1
theorem parts_yz (a b : List Int) : bothL (lessL a b) (lessL b a) = [] := nil_of_none fun x h => by
  rw [bothL_mem, lessL_mem, lessL_mem] at h
  exact h.2.2 h.1.1
theorem parts_all (a b : List Int) : unionL (unionL (bothL a b) (lessL a b)) (lessL b a) = unionL a b :=
  ofL_congr fun x => by
    rw [List.mem_append, List.mem_append, unionL_mem, bothL_mem, lessL_mem, lessL_mem]
    by_cases h1 : x ∈ a <;> by_cases h2 : x ∈ b <;> simp [h1, h2]

end Go.Proofs.Ytklfcjgambdncaa
