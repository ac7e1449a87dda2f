/- Long of a text and one edit. -/
import Derived.Test.YtfgjlgcoablnoaaLong
namespace Go.Proofs.Ytfgjlgcoablnoaa
open Go.RowKit

theorem long10_one (s t : ByteArray) (b cap : Nat) (w : World) (hs : s.size ≤ 9223372036854775807) (hc : w.cell? ⟨b, 2, none⟩ = some (.string t)) :
    Calls Try.prog 10 #[.string s, .slice (some ⟨b, 0, none⟩) 1 cap] w fun e w' => e = .returned (.bool (longB s.size [t])) ∧ w' = w :=
  long10 s [t] b 0 cap w hs (by simp) (fun j hj => by
    have : j = 0 := by simpa using hj
    subst this
    simpa using hc)
theorem longB_one {l : Nat} {t : ByteArray} (h : longB l [t] = false) : l ≤ 5000 ∧ t.size ≤ 5000 := by
  simp [longB] at h; omega

end Go.Proofs.Ytfgjlgcoablnoaa
