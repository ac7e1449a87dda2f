/-
  DERIVED. GIVEN WITH THE SEED: THE CARDS: each row of YtklfcjgambdncaaDoorRows.lean that lists a variable, with what it lists TIED to the program's text (the seventh form; the later family's looks); each row that meets fmt, with fmt's text TOLD by the authors' own Lean function (tested against real Go, not proved from fmt's source: count such statements apart). THE CARD IS WHAT COUNTS. Prove the row's statement (the work); the ties are given (YtklfcjgambdncaaDoorTie.lean); close each card by the builder's one call (the guide's Derived/Test/ToyasCard.lean, 'card_holds'). Laid BY PROGRAM, IN A SANDBOX (cutbox-door.mjs). By AI agents, Wed Nov 11 2026. No macro, syntax, notation, axiom, sorry.
-/
import Derived.Test.YtklfcjgambdncaaDoorRows
import GoSem.ClaimSeven
namespace Go.Proofs.YtklfcjgambdncaaDoor
namespace Rows

/-- THE TIED CARD OF 'topiarylaw04.SetsFinds'. -/
def setsFindsCard : Claim7 := { stood := { row := setsFindsRow, standIns := [], harness := (true, "1fe9af1cc444258a06b9b0d049aa138a90a62f5c92137a30938b9f6e10025e95"), looks := false }, kinds := [], alts := [], laidByText := true, laidKinds := [.data, .data, .data], laidTests := true, laidLooks := .later }
def SetsFindsCardSaid : Prop := Claim7.holds Tryd.pinned (.plain (OpenSpec.ofChange setsFindsSpec)) setsFindsCard

/-- THE SECOND FORM's CARD OF 'topiarylaw04.SetsFinds'. -/
def setsFindsUptoCard : Claim7 := { stood := { row := setsFindsUptoRow, standIns := [], harness := (true, "1fe9af1cc444258a06b9b0d049aa138a90a62f5c92137a30938b9f6e10025e95"), looks := false }, kinds := [], alts := [], laidByText := true, laidKinds := [.data, .data, .data], laidTests := true, laidLooks := .later }
def SetsFindsUptoCardSaid : Prop := Claim7.holds Tryd.pinned (.plain (OpenSpec.upto setsFindsSpec)) setsFindsUptoCard
end Rows
end Go.Proofs.YtklfcjgambdncaaDoor
