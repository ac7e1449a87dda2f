/- SpotsReversed: one spot and one byte. -/
import Derived.Test.YtgbecehggdkkmaaLawBJ
import Derived.Test.YtgbecehggdkkmaaOpenJ
namespace Go.Proofs.Ytgbecehggdkkmaa
open Go.ChangeShapes Go.WideShapes Go.ChangeAt Go.RowKit

theorem bound_u8 {n : Int} (h : (Lit.int .u8 n).wf = true) : 0 ≤ n ∧ n ≤ 255 := by
  have h1 : IntKind.u8.min = 0 := by decide
  have h2 : IntKind.u8.max = 255 := by decide
  simp [Lit.wf] at h
  omega
set_option maxRecDepth 20000 in
theorem open_byte {H : Type} {enc : TypeId × Value → H} {W : World} {v : Value} {d : DataW H} {p : List MemPlace} {base : Nat} (hv : Value.okWide Try.prog W .any base 5 v)
    (h : DataW.Trod enc Try.prog W 0 (fun _ => true) true 5 v d p) : ∃ c : UInt8, v = .int .u8 (c.toNat : Int) := by
  obtain ⟨n, rfl⟩ := okWide_int Try.underlying5 hv
  obtain ⟨fuel, hf⟩ := h
  obtain ⟨m, e, _, hw⟩ := DataW.trod_int Try.underlying5 hf
  simp [Value.cells] at e
  subst e
  have hb := bound_u8 hw
  refine ⟨UInt8.ofNat n.toNat, ?_⟩
  rw [ofNat_toNat (by omega)]
  congr 1
  omega
set_option maxRecDepth 20000 in
theorem conv1 (g : Nat) (u : World) (c : UInt8) (hc : u.cell? ⟨g, 0, none⟩ = some (.int .u8 (c.toNat : Int))) : (convert 41 9 (.slice (some ⟨g, 0, none⟩) 1 1)).run Try.prog u = .ok (.string (strT [c])) u := by
  rw [run_convert_bytes_string u _ _ 5 _ _ _ Try.underlying41 Try.underlying5 Try.underlying9]
  have hl : (loadCells ⟨g, 0, none⟩ 1).run Try.prog u = .ok (([(c.toNat : Int)]).map (Value.int .u8)).toArray u := by
    simp [loadCells, hc, go_sem]
  rw [run_bytesToString u _ 1 1 _ hl]
  congr 2
  simp
  rfl
/-- one spot, first and last -/
def oneSp (Z : W4) : Sp := ⟨[Z], false, [0], [0], [[]]⟩
theorem one_good (Z : W4) : goodB (oneSp Z) = true := by simp [goodB, oneSp, insB]
theorem one_fit (Z : W4) (c : UInt8) : fitB (oneSp Z) [c] = hasB Z c.toNat := by
  rw [fit_read (one_good Z) [c] (by simp)]
  have e : rdK (oneSp Z) [c] 1 = if hasB Z c.toNat then [0] else [] := by
    rw [rdK_one]
    have e0 : ofL (oneSp Z).first = [0] := rfl
    rw [e0]
    simp [havL, oneSp, List.filter_cons]
  show decide (0 < (bothL (rdK (oneSp Z) [c] 1) (oneSp Z).last).length) = _
  rw [e]
  cases hasB Z c.toNat with
  | false => rfl
  | true => exact (show decide (0 < (bothL [0] [0]).length) = true from by decide)
theorem mat_one {t : Rx} {fl : List (List Int)} (hF : FolOK (FolS [t]) (nS [t]) fl) (c : UInt8) : Mat t [c] ↔ ∃ x ∈ bothL (firstL t 0) (lastL t 0), hasB ((setsS [t]).getD x.toNat noneB) c.toNat = true := by
  have hI := spOf_is hF
  rw [← fit_iff hI, fit_read hI.good [c] (by simp), decide_eq_true_eq]
  have e : rdK (spOf t fl) [c] ([c] : Txt).length = havL (setsS [t]) c.toNat (ofL (firstL t 0)) := rdK_one _ _
  rw [e]
  constructor
  · intro h
    obtain ⟨x, hx⟩ := List.exists_mem_of_length_pos h
    rw [bothL_mem, havL_mem, ofL_mem] at hx
    exact ⟨x, (bothL_mem _ _ x).2 ⟨hx.1.1, hx.2⟩, hx.1.2⟩
  · rintro ⟨x, hx, h⟩
    rw [bothL_mem] at hx
    refine List.length_pos_of_mem (a := x) ?_
    rw [bothL_mem, havL_mem, ofL_mem]
    exact ⟨⟨hx.1, h⟩, hx.2⟩
/-- some of the first k of them has the byte -/
def anyK (S : List W4) (b : Nat) (l : List Int) (k : Nat) : Bool := (l.take k).any fun x => hasB (S.getD x.toNat noneB) b
theorem anyK_succ {S : List W4} {b k : Nat} {l : List Int} (h : k < l.length) : anyK S b l (k + 1) = (anyK S b l k || hasB (S.getD l[k].toNat noneB) b) := by
  unfold anyK
  rw [List.take_succ_eq_append_getElem h, List.any_append]
  simp
theorem mat_any {t : Rx} {fl : List (List Int)} (hF : FolOK (FolS [t]) (nS [t]) fl) (c : UInt8) : Mat t [c] ↔ anyK (setsS [t]) c.toNat (bothL (firstL t 0) (lastL t 0)) (bothL (firstL t 0) (lastL t 0)).length = true := by
  rw [mat_one hF]
  unfold anyK
  rw [List.take_length, List.any_eq_true]

end Go.Proofs.Ytgbecehggdkkmaa
