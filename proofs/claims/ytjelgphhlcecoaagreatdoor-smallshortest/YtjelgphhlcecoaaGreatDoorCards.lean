/-
  DERIVED. GIVEN WITH THE SEED: THE CARDS: each row of YtjelgphhlcecoaaGreatDoorRows.lean that lists a variable, with what it lists TIED to the program's text (the seventh form; the later family's looks); each row that meets fmt, with fmt's text TOLD by the authors' own Lean function (tested against real Go, not proved from fmt's source: count such statements apart). THE CARD IS WHAT COUNTS. Prove the row's statement (the work); the ties are given (YtjelgphhlcecoaaGreatDoorTie.lean); close each card by the builder's one call (the guide's Derived/Test/ToyasCard.lean, 'card_holds'). Laid BY PROGRAM, IN A SANDBOX (cutbox-door.mjs). By AI agents, Wed Nov 11 2026. No macro, syntax, notation, axiom, sorry.
-/
import Derived.Test.YtjelgphhlcecoaaGreatDoorRows
import GoSem.ClaimSeven
namespace Go.Proofs.YtjelgphhlcecoaaGreatDoor
namespace Rows

/-- THE TIED CARD OF 'topiarylaw09.SmallMakes'. -/
def smallMakesCard : Claim7 := { stood := { row := smallMakesRow, standIns := [], harness := (true, "e506890c34aa8828b8324bfcc0102fba436e8869079c3655443648b1dc86d82f"), looks := true }, kinds := [], alts := [], laidByText := true, laidKinds := [.data], laidTests := true, laidLooks := .later }
def SmallMakesCardSaid : Prop := Claim7.holds Tryz.pinned (.plain (OpenSpec.ofChange smallMakesSpec)) smallMakesCard

/-- THE TIED CARD OF 'topiarylaw09.SmallSame'. -/
def smallSameCard : Claim7 := { stood := { row := smallSameRow, standIns := [], harness := (true, "e506890c34aa8828b8324bfcc0102fba436e8869079c3655443648b1dc86d82f"), looks := true }, kinds := [], alts := [], laidByText := true, laidKinds := [.data], laidTests := true, laidLooks := .later }
def SmallSameCardSaid : Prop := Claim7.holds Tryz.pinned (.plain (OpenSpec.ofChange smallSameSpec)) smallSameCard

/-- THE TIED CARD OF 'topiarylaw09.SmallAlike'. -/
def smallAlikeCard : Claim7 := { stood := { row := smallAlikeRow, standIns := [], harness := (true, "e506890c34aa8828b8324bfcc0102fba436e8869079c3655443648b1dc86d82f"), looks := true }, kinds := [], alts := [], laidByText := true, laidKinds := [.data], laidTests := true, laidLooks := .later }
def SmallAlikeCardSaid : Prop := Claim7.holds Tryz.pinned (.plain (OpenSpec.ofChange smallAlikeSpec)) smallAlikeCard

/-- THE TIED CARD OF 'topiarylaw09.SmallShortest'. -/
def smallShortestCard : Claim7 := { stood := { row := smallShortestRow, standIns := [], harness := (true, "e506890c34aa8828b8324bfcc0102fba436e8869079c3655443648b1dc86d82f"), looks := true }, kinds := [], alts := [], laidByText := true, laidKinds := [.data], laidTests := true, laidLooks := .later }
def SmallShortestCardSaid : Prop := Claim7.holds Tryz.pinned (.plain (OpenSpec.ofChange smallShortestSpec)) smallShortestCard

/-- THE TIED CARD OF 'topiarylaw09.SmallLeast'. -/
def smallLeastCard : Claim7 := { stood := { row := smallLeastRow, standIns := [], harness := (true, "e506890c34aa8828b8324bfcc0102fba436e8869079c3655443648b1dc86d82f"), looks := true }, kinds := [], alts := [], laidByText := true, laidKinds := [.data], laidTests := true, laidLooks := .later }
def SmallLeastCardSaid : Prop := Claim7.holds Tryz.pinned (.plain (OpenSpec.ofChange smallLeastSpec)) smallLeastCard

/-- THE SECOND FORM's CARD OF 'topiarylaw09.SmallMakes'. -/
def smallMakesUptoCard : Claim7 := { stood := { row := smallMakesUptoRow, standIns := [], harness := (true, "e506890c34aa8828b8324bfcc0102fba436e8869079c3655443648b1dc86d82f"), looks := true }, kinds := [], alts := [], laidByText := true, laidKinds := [.data], laidTests := true, laidLooks := .later }
def SmallMakesUptoCardSaid : Prop := Claim7.holds Tryz.pinned (.plain (OpenSpec.upto smallMakesSpec)) smallMakesUptoCard

/-- THE SECOND FORM's CARD OF 'topiarylaw09.SmallSame'. -/
def smallSameUptoCard : Claim7 := { stood := { row := smallSameUptoRow, standIns := [], harness := (true, "e506890c34aa8828b8324bfcc0102fba436e8869079c3655443648b1dc86d82f"), looks := true }, kinds := [], alts := [], laidByText := true, laidKinds := [.data], laidTests := true, laidLooks := .later }
def SmallSameUptoCardSaid : Prop := Claim7.holds Tryz.pinned (.plain (OpenSpec.upto smallSameSpec)) smallSameUptoCard

/-- THE SECOND FORM's CARD OF 'topiarylaw09.SmallAlike'. -/
def smallAlikeUptoCard : Claim7 := { stood := { row := smallAlikeUptoRow, standIns := [], harness := (true, "e506890c34aa8828b8324bfcc0102fba436e8869079c3655443648b1dc86d82f"), looks := true }, kinds := [], alts := [], laidByText := true, laidKinds := [.data], laidTests := true, laidLooks := .later }
def SmallAlikeUptoCardSaid : Prop := Claim7.holds Tryz.pinned (.plain (OpenSpec.upto smallAlikeSpec)) smallAlikeUptoCard

/-- THE SECOND FORM's CARD OF 'topiarylaw09.SmallShortest'. -/
def smallShortestUptoCard : Claim7 := { stood := { row := smallShortestUptoRow, standIns := [], harness := (true, "e506890c34aa8828b8324bfcc0102fba436e8869079c3655443648b1dc86d82f"), looks := true }, kinds := [], alts := [], laidByText := true, laidKinds := [.data], laidTests := true, laidLooks := .later }
def SmallShortestUptoCardSaid : Prop := Claim7.holds Tryz.pinned (.plain (OpenSpec.upto smallShortestSpec)) smallShortestUptoCard

/-- THE SECOND FORM's CARD OF 'topiarylaw09.SmallLeast'. -/
def smallLeastUptoCard : Claim7 := { stood := { row := smallLeastUptoRow, standIns := [], harness := (true, "e506890c34aa8828b8324bfcc0102fba436e8869079c3655443648b1dc86d82f"), looks := true }, kinds := [], alts := [], laidByText := true, laidKinds := [.data], laidTests := true, laidLooks := .later }
def SmallLeastUptoCardSaid : Prop := Claim7.holds Tryz.pinned (.plain (OpenSpec.upto smallLeastSpec)) smallLeastUptoCard
end Rows
end Go.Proofs.YtjelgphhlcecoaaGreatDoor
