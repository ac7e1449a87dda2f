/- Acts in memory; the contract of long. -/
import Derived.Test.YtnhabinnmkjnbaaWakes
namespace Go.Proofs.Ytnhabinnmkjnbaa
open Go.RowKit

structure Act where
  k : Int
  e : Ed

/-- the acts lie in memory, one behind the other -/
def Acts (w : World) (b off : Nat) (acts : List Act) : Prop :=
  ∀ j (h : j < acts.length), w.cell? ⟨b, off + j * 4, none⟩ = some (.int .i64 acts[j].k) ∧ w.cell? ⟨b, off + j * 4 + 1, none⟩ = some (.int .i64 acts[j].e.a) ∧ w.cell? ⟨b, off + j * 4 + 2, none⟩ = some (.int .i64 acts[j].e.n) ∧ w.cell? ⟨b, off + j * 4 + 3, none⟩ = some (.string acts[j].e.t)
def ActsAt (w : World) (ao : Option Addr) (acts : List Act) : Prop := acts ≠ [] → ∃ b off, ao = some ⟨b, off, none⟩ ∧ b < w.heap.size ∧ Acts w b off acts

theorem Acts.keepB {B : Nat} {w w' : World} {b off : Nat} {acts : List Act} (h : Acts w b off acts) (hb : Below B w w') (hB : b < B) : Acts w' b off acts := fun j hj =>
  ⟨(hb.cell (p := ⟨b, _, none⟩) hB).trans (h j hj).1, (hb.cell (p := ⟨b, _, none⟩) hB).trans (h j hj).2.1, (hb.cell (p := ⟨b, _, none⟩) hB).trans (h j hj).2.2.1, (hb.cell (p := ⟨b, _, none⟩) hB).trans (h j hj).2.2.2⟩

theorem blkB {B : Nat} {w w' : World} (hb : Below B w w') {b : Nat} {x : Obj} (h : w.heap[b]? = some x) (hB : b < B) : w'.heap[b]? = some x := (hb.block b hB).trans h
theorem Moved.below {F F' : Nat → Prop} {B : Nat} {w w' : World} (h : Moved F F' w w') (hF : ∀ k, F k → B ≤ k) (hB : B ≤ w.heap.size) : Below B w w' := h.1.below hF hB
theorem Moved.ge {F F' : Nat → Prop} {B : Nat} {w w' : World} (h : Moved F F' w w') (hF : ∀ k, F k → B ≤ k) (hB : B ≤ w.heap.size) : ∀ k, F' k → B ≤ k := fun k hk => (h.2 k hk).elim (hF k) (fun hle => Nat.le_trans hB hle)

def longA (l : Nat) (acts : List Act) : Bool := decide (4000 < l) || decide (100 < acts.length) || acts.any fun a => decide (5000 < a.e.t.size)

set_option maxHeartbeats 1000000 in
theorem longIs (s : ByteArray) (acts : List Act) (b off cap : Nat) (w : World) (hs : s.size ≤ 9223372036854775807) (hl : acts.length ≤ 9223372036854775807) (hA : Acts w b off acts) :
    Calls Try.prog 9 #[.string s, .slice (some ⟨b, off, none⟩) acts.length cap] w fun e w' => e = .returned (.bool (longA s.size acts)) ∧ w' = w := by
  by_cases h1 : 4000 < s.size
  · have hv : Hid (longA s.size acts = true) := by unfold Hid longA; simp [h1]
    have h1' : (4000 : Int) < s.size := by omega
    clear hA
    go_enter Try.func9, Try.ntmps9
    go_wp2
    go_ret
    exact ⟨by rw [hv.out]; rfl, rfl⟩
  · by_cases h2 : 100 < acts.length
    · have hv : Hid (longA s.size acts = true) := by unfold Hid longA; simp [h2]
      have h1' : ¬ (4000 : Int) < s.size := by omega
      have h2' : (100 : Int) < acts.length := by omega
      clear hA
      go_enter Try.func9, Try.ntmps9
      go_wp2
      go_ret
      exact ⟨by rw [hv.out]; rfl, rfl⟩
    · have h1' : ¬ (4000 : Int) < s.size := by omega
      have h2' : ¬ (100 : Int) < acts.length := by omega
      have hv : Hid (longA s.size acts = acts.any (fun a => decide (5000 < a.e.t.size))) := by unfold Hid longA; simp [h1, h2]
      have HC : Hid (Acts w b off acts) := hA
      clear hA
      go_enter Try.func9, Try.ntmps9
      go_wp2
      go_loop [16] (fun i => ∃ k : Nat, k ≤ acts.length ∧ i = .int .i64 k ∧ ∀ j (hj : j < acts.length), j < k → ¬ 5000 < acts[j].e.t.size) (fun i => acts.length - (intOf i).toNat)
      case atStart => exact ⟨0, Nat.zero_le _, rfl, fun j hj h => absurd h (Nat.not_lt_zero _)⟩
      case round =>
        obtain ⟨k, hk, rfl, hno⟩ := hrel
        by_cases hlt : k < acts.length
        · have hck := (HC.out k hlt).2.2.2
          have HN : Hid (∀ j (hj : j < acts.length), j < k → ¬ 5000 < acts[j].e.t.size) := hno
          clear hno
          have hlt' : (k : Int) < acts.length := by omega
          by_cases hbig : (5000 : Int) < acts[k].e.t.size
          · have HA : Hid ((acts.any fun a => decide (5000 < a.e.t.size)) = true) := by
              unfold Hid; rw [List.any_eq_true]; exact ⟨acts[k], List.getElem_mem hlt, by simp; omega⟩
            go_wp2
            go_ret
            exact ⟨by rw [hv.out, HA.out]; rfl, rfl⟩
          · go_wp2
            go_round
            case rel => exact ⟨k + 1, by omega, by go_num, fun j hj h => by
              by_cases e : j = k
              · subst e; omega
              · exact HN.out j hj (by omega)⟩
            case measure => simp [intOf]; omega
        · have HA : Hid ((acts.any fun a => decide (5000 < a.e.t.size)) = false) := by
            unfold Hid; rw [List.any_eq_false]
            intro x hx
            obtain ⟨j, hj, rfl⟩ := List.getElem_of_mem hx
            have := hno j hj (by omega)
            simpa using this
          clear hno
          go_wp2
          go_ret
          exact ⟨by rw [hv.out, HA.out]; rfl, rfl⟩

theorem longA_false {l : Nat} {acts : List Act} (h : longA l acts = false) : l ≤ 4000 ∧ acts.length ≤ 100 ∧ ∀ a ∈ acts, a.e.t.size ≤ 5000 := by
  simp [longA] at h
  exact ⟨by omega, by omega, fun e he => h.2 e he⟩

end Go.Proofs.Ytnhabinnmkjnbaa
