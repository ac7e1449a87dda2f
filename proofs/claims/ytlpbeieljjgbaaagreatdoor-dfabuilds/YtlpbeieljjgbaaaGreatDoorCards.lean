/-
  DERIVED. GIVEN WITH THE SEED: THE CARDS: each row of YtlpbeieljjgbaaaGreatDoorRows.lean that lists a variable, with what it lists TIED to the program's text (the seventh form; the later family's looks); each row that meets fmt, with fmt's text TOLD by the authors' own Lean function (tested against real Go, not proved from fmt's source: count such statements apart). THE CARD IS WHAT COUNTS. Prove the row's statement (the work); the ties are given (YtlpbeieljjgbaaaGreatDoorTie.lean); close each card by the builder's one call (the guide's Derived/Test/ToyasCard.lean, 'card_holds'). Laid BY PROGRAM, IN A SANDBOX (cutbox-door.mjs). By AI agents, Wed Nov 11 2026. No macro, syntax, notation, axiom, sorry.
-/
import Derived.Test.YtlpbeieljjgbaaaGreatDoorRows
import GoSem.ClaimSeven
namespace Go.Proofs.YtlpbeieljjgbaaaGreatDoor
namespace Rows

/-- THE TIED CARD OF 'topiarylaw08.DfaRight'. -/
def dfaRightCard : Claim7 := { stood := { row := dfaRightRow, standIns := [], harness := (true, "a117247186c9897401d8058b6fde5c56921ed28bc105e8c986d7fd1543cbeffb"), looks := true }, kinds := [], alts := [], laidByText := true, laidKinds := [.data], laidTests := true, laidLooks := .later }
def DfaRightCardSaid : Prop := Claim7.holds Tryz.pinned (.plain (OpenSpec.ofChange dfaRightSpec)) dfaRightCard

/-- THE TIED CARD OF 'topiarylaw08.DfaBuilds'. -/
def dfaBuildsCard : Claim7 := { stood := { row := dfaBuildsRow, standIns := [], harness := (true, "a117247186c9897401d8058b6fde5c56921ed28bc105e8c986d7fd1543cbeffb"), looks := true }, kinds := [], alts := [], laidByText := true, laidKinds := [.data], laidTests := true, laidLooks := .later }
def DfaBuildsCardSaid : Prop := Claim7.holds Tryz.pinned (.plain (OpenSpec.ofChange dfaBuildsSpec)) dfaBuildsCard

/-- THE TIED CARD OF 'topiarylaw08.DfaAccepts'. -/
def dfaAcceptsCard : Claim7 := { stood := { row := dfaAcceptsRow, standIns := [], harness := (true, "a117247186c9897401d8058b6fde5c56921ed28bc105e8c986d7fd1543cbeffb"), looks := true }, kinds := [], alts := [], laidByText := true, laidKinds := [.data], laidTests := true, laidLooks := .later }
def DfaAcceptsCardSaid : Prop := Claim7.holds Tryz.pinned (.plain (OpenSpec.ofChange dfaAcceptsSpec)) dfaAcceptsCard

/-- THE TIED CARD OF 'topiarylaw08.DfaMet'. -/
def dfaMetCard : Claim7 := { stood := { row := dfaMetRow, standIns := [], harness := (true, "a117247186c9897401d8058b6fde5c56921ed28bc105e8c986d7fd1543cbeffb"), looks := true }, kinds := [], alts := [], laidByText := true, laidKinds := [.data], laidTests := true, laidLooks := .later }
def DfaMetCardSaid : Prop := Claim7.holds Tryz.pinned (.plain (OpenSpec.ofChange dfaMetSpec)) dfaMetCard

/-- THE TIED CARD OF 'topiarylaw08.DfaSteps'. -/
def dfaStepsCard : Claim7 := { stood := { row := dfaStepsRow, standIns := [], harness := (true, "a117247186c9897401d8058b6fde5c56921ed28bc105e8c986d7fd1543cbeffb"), looks := true }, kinds := [], alts := [], laidByText := true, laidKinds := [.data], laidTests := true, laidLooks := .later }
def DfaStepsCardSaid : Prop := Claim7.holds Tryz.pinned (.plain (OpenSpec.ofChange dfaStepsSpec)) dfaStepsCard

/-- THE SECOND FORM's CARD OF 'topiarylaw08.DfaRight'. -/
def dfaRightUptoCard : Claim7 := { stood := { row := dfaRightUptoRow, standIns := [], harness := (true, "a117247186c9897401d8058b6fde5c56921ed28bc105e8c986d7fd1543cbeffb"), looks := true }, kinds := [], alts := [], laidByText := true, laidKinds := [.data], laidTests := true, laidLooks := .later }
def DfaRightUptoCardSaid : Prop := Claim7.holds Tryz.pinned (.plain (OpenSpec.upto dfaRightSpec)) dfaRightUptoCard

/-- THE SECOND FORM's CARD OF 'topiarylaw08.DfaBuilds'. -/
def dfaBuildsUptoCard : Claim7 := { stood := { row := dfaBuildsUptoRow, standIns := [], harness := (true, "a117247186c9897401d8058b6fde5c56921ed28bc105e8c986d7fd1543cbeffb"), looks := true }, kinds := [], alts := [], laidByText := true, laidKinds := [.data], laidTests := true, laidLooks := .later }
def DfaBuildsUptoCardSaid : Prop := Claim7.holds Tryz.pinned (.plain (OpenSpec.upto dfaBuildsSpec)) dfaBuildsUptoCard

/-- THE SECOND FORM's CARD OF 'topiarylaw08.DfaAccepts'. -/
def dfaAcceptsUptoCard : Claim7 := { stood := { row := dfaAcceptsUptoRow, standIns := [], harness := (true, "a117247186c9897401d8058b6fde5c56921ed28bc105e8c986d7fd1543cbeffb"), looks := true }, kinds := [], alts := [], laidByText := true, laidKinds := [.data], laidTests := true, laidLooks := .later }
def DfaAcceptsUptoCardSaid : Prop := Claim7.holds Tryz.pinned (.plain (OpenSpec.upto dfaAcceptsSpec)) dfaAcceptsUptoCard

/-- THE SECOND FORM's CARD OF 'topiarylaw08.DfaMet'. -/
def dfaMetUptoCard : Claim7 := { stood := { row := dfaMetUptoRow, standIns := [], harness := (true, "a117247186c9897401d8058b6fde5c56921ed28bc105e8c986d7fd1543cbeffb"), looks := true }, kinds := [], alts := [], laidByText := true, laidKinds := [.data], laidTests := true, laidLooks := .later }
def DfaMetUptoCardSaid : Prop := Claim7.holds Tryz.pinned (.plain (OpenSpec.upto dfaMetSpec)) dfaMetUptoCard

/-- THE SECOND FORM's CARD OF 'topiarylaw08.DfaSteps'. -/
def dfaStepsUptoCard : Claim7 := { stood := { row := dfaStepsUptoRow, standIns := [], harness := (true, "a117247186c9897401d8058b6fde5c56921ed28bc105e8c986d7fd1543cbeffb"), looks := true }, kinds := [], alts := [], laidByText := true, laidKinds := [.data], laidTests := true, laidLooks := .later }
def DfaStepsUptoCardSaid : Prop := Claim7.holds Tryz.pinned (.plain (OpenSpec.upto dfaStepsSpec)) dfaStepsUptoCard
end Rows
end Go.Proofs.YtlpbeieljjgbaaaGreatDoor
