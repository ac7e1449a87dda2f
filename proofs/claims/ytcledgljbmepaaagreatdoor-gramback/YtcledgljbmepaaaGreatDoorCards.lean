/-
  DERIVED. GIVEN WITH THE SEED: THE CARDS: each row of YtcledgljbmepaaaGreatDoorRows.lean that lists a variable, with what it lists TIED to the program's text (the seventh form; the later family's looks); each row that meets fmt, with fmt's text TOLD by the authors' own Lean function (tested against real Go, not proved from fmt's source: count such statements apart). THE CARD IS WHAT COUNTS. Prove the row's statement (the work); the ties are given (YtcledgljbmepaaaGreatDoorTie.lean); close each card by the builder's one call (the guide's Derived/Test/ToyasCard.lean, 'card_holds'). Laid BY PROGRAM, IN A SANDBOX (cutbox-door.mjs). By AI agents, Wed Nov 11 2026. No macro, syntax, notation, axiom, sorry.
-/
import Derived.Test.YtcledgljbmepaaaGreatDoorRows
import GoSem.ClaimSeven
namespace Go.Proofs.YtcledgljbmepaaaGreatDoor
namespace Rows

/-- THE TIED CARD OF 'topiarylaw12.GramBack'. -/
def gramBackCard : Claim7 := { stood := { row := gramBackRow, standIns := [], harness := (true, "599b3b2364be24672fbf86914dfa1e87397e5044b3e0f11dc06b7a4f611f5626"), looks := true }, kinds := [], alts := [], laidByText := true, laidKinds := [.data], laidTests := true, laidLooks := .later }
def GramBackCardSaid : Prop := Claim7.holds Tryz.pinned (.plain (OpenSpec.ofChange gramBackSpec)) gramBackCard

/-- THE SECOND FORM's CARD OF 'topiarylaw12.GramBack'. -/
def gramBackUptoCard : Claim7 := { stood := { row := gramBackUptoRow, standIns := [], harness := (true, "599b3b2364be24672fbf86914dfa1e87397e5044b3e0f11dc06b7a4f611f5626"), looks := true }, kinds := [], alts := [], laidByText := true, laidKinds := [.data], laidTests := true, laidLooks := .later }
def GramBackUptoCardSaid : Prop := Claim7.holds Tryz.pinned (.plain (OpenSpec.upto gramBackSpec)) gramBackUptoCard
end Rows
end Go.Proofs.YtcledgljbmepaaaGreatDoor
