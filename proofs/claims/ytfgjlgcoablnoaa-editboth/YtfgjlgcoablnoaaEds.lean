/- Lists of edits in memory; Long over them. -/
import Derived.Test.YtfgjlgcoablnoaaLong
import Derived.Test.YtfgjlgcoablnoaaCells
namespace Go.Proofs.Ytfgjlgcoablnoaa
open Go.RowKit

structure Ed where
  a : Int
  n : Int
  t : ByteArray

/-- the edits es lie in memory, one behind the other -/
def Edits (w : World) (b off : Nat) (es : List Ed) : Prop :=
  ∀ j (h : j < es.length), w.cell? ⟨b, off + j * 3, none⟩ = some (.int .i64 es[j].a) ∧ w.cell? ⟨b, off + j * 3 + 1, none⟩ = some (.int .i64 es[j].n) ∧ w.cell? ⟨b, off + j * 3 + 2, none⟩ = some (.string es[j].t)
def EdsAt (w : World) (ao : Option Addr) (es : List Ed) : Prop := es ≠ [] → ∃ b off, ao = some ⟨b, off, none⟩ ∧ Edits w b off es

theorem Edits.keep {w w' : World} {b off : Nat} {es : List Ed} (h : Edits w b off es) (hb : Below w.heap.size w w') : Edits w' b off es := fun j hj =>
  ⟨keep_cell hb (h j hj).1, keep_cell hb (h j hj).2.1, keep_cell hb (h j hj).2.2⟩
theorem EdsAt.keep {w w' : World} {ao : Option Addr} {es : List Ed} (h : EdsAt w ao es) (hb : Below w.heap.size w w') : EdsAt w' ao es := fun hne => by
  obtain ⟨b, off, e, h⟩ := h hne
  exact ⟨b, off, e, h.keep hb⟩

set_option maxHeartbeats 400000 in
theorem long10_nil (s : ByteArray) (ao : Option Addr) (cap : Nat) (w : World) (hs : s.size ≤ 9223372036854775807) :
    Calls Try.prog 10 #[.string s, .slice ao 0 cap] w fun e w' => e = .returned (.bool (longB s.size [])) ∧ w' = w := by
  by_cases h1 : 5000 < s.size
  · have hv : Hid (longB s.size [] = true) := by unfold Hid longB; simp [h1]
    have h1' : (5000 : Int) < s.size := by omega
    go_enter Try.func10, Try.ntmps10
    go_wp2
    go_ret
    exact ⟨by rw [hv.out]; rfl, rfl⟩
  · have h1' : ¬ (5000 : Int) < s.size := by omega
    have hv : Hid (longB s.size [] = false) := by unfold Hid longB; simp [h1]
    go_enter Try.func10, Try.ntmps10
    go_wp2
    go_loop [5] (fun i => i = .int .i64 0) (fun _ => 0)
    case atStart => exact rfl
    case round =>
      subst hrel
      go_wp2
      go_ret
      exact ⟨by rw [hv.out]; rfl, rfl⟩

theorem long10_eds (s : ByteArray) (es : List Ed) (ao : Option Addr) (cap : Nat) (w : World) (hs : s.size ≤ 9223372036854775807) (hl : es.length ≤ 9223372036854775807) (hA : EdsAt w ao es) :
    Calls Try.prog 10 #[.string s, .slice ao es.length cap] w fun e w' => e = .returned (.bool (longB s.size (es.map Ed.t))) ∧ w' = w := by
  cases es with
  | nil => exact long10_nil s ao cap w hs
  | cons e r =>
    obtain ⟨b, off, rfl, h⟩ := hA (by simp)
    have k := long10 s ((e :: r).map Ed.t) b off cap w hs (by simpa using hl) (fun j hj => by
      rw [List.getElem_map]
      exact (h j (by simpa using hj)).2.2)
    rw [List.length_map] at k
    exact k

/-- what becomes of edits: the text, how many were done, the error -/
def play : ByteArray → List Ed → Nat → ByteArray × Nat × Int
  | s, [], k => (s, k, 0)
  | s, e :: es, k => if errNo s.size e.a e.n e.t.size = 0 then play (appS s e.t e.a e.n) es (k + 1) else (s, k, errNo s.size e.a e.n e.t.size)

theorem appS_size {s t : ByteArray} {a n : Int} (h : errNo s.size a n t.size = 0) : (appS s t a n).size ≤ 4000 := by
  rw [appS_ok h]
  rcases errNo_cases s.size a n t.size with ⟨he, hf, hm⟩ | ⟨he, hf, hm⟩ | ⟨he, hf⟩
  · obtain ⟨f1, f2, f3⟩ := fitsB_true hf
    rw [madeOf_size s t _ _ (by omega)]; omega
  · omega
  · omega

end Go.Proofs.Ytfgjlgcoablnoaa
