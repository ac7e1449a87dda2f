/-
  DERIVED. GIVEN WITH THE SEED: THE CARDS: each row of YtonlcnmlklaicaaGreatDoorRows.lean that lists a variable, with what it lists TIED to the program's text (the seventh form; the later family's looks); each row that meets fmt, with fmt's text TOLD by the authors' own Lean function (tested against real Go, not proved from fmt's source: count such statements apart). THE CARD IS WHAT COUNTS. Prove the row's statement (the work); the ties are given (YtonlcnmlklaicaaGreatDoorTie.lean); close each card by the builder's one call (the guide's Derived/Test/ToyasCard.lean, 'card_holds'). Laid BY PROGRAM, IN A SANDBOX (cutbox-door.mjs). By AI agents, Wed Nov 11 2026. No macro, syntax, notation, axiom, sorry.
-/
import Derived.Test.YtonlcnmlklaicaaGreatDoorRows
import GoSem.ClaimSeven
namespace Go.Proofs.YtonlcnmlklaicaaGreatDoor
namespace Rows

/-- THE TIED CARD OF 'topiarylaw10.LexOne'. -/
def lexOneCard : Claim7 := { stood := { row := lexOneRow, standIns := [], harness := (true, "ddab31768361eb6416813d61d89ce6fa33d22b21570220556414a23127ba25af"), looks := true }, kinds := [], alts := [], laidByText := true, laidKinds := [.data], laidTests := true, laidLooks := .later }
def LexOneCardSaid : Prop := Claim7.holds Tryz.pinned (.plain (OpenSpec.ofChange lexOneSpec)) lexOneCard

/-- THE TIED CARD OF 'topiarylaw10.LexAll'. -/
def lexAllCard : Claim7 := { stood := { row := lexAllRow, standIns := [], harness := (true, "ddab31768361eb6416813d61d89ce6fa33d22b21570220556414a23127ba25af"), looks := true }, kinds := [], alts := [], laidByText := true, laidKinds := [.data], laidTests := true, laidLooks := .later }
def LexAllCardSaid : Prop := Claim7.holds Tryz.pinned (.plain (OpenSpec.ofChange lexAllSpec)) lexAllCard

/-- THE TIED CARD OF 'topiarylaw10.LexRules'. -/
def lexRulesCard : Claim7 := { stood := { row := lexRulesRow, standIns := [], harness := (true, "ddab31768361eb6416813d61d89ce6fa33d22b21570220556414a23127ba25af"), looks := true }, kinds := [], alts := [], laidByText := true, laidKinds := [.data], laidTests := true, laidLooks := .later }
def LexRulesCardSaid : Prop := Claim7.holds Tryz.pinned (.plain (OpenSpec.ofChange lexRulesSpec)) lexRulesCard

/-- THE TIED CARD OF 'topiarylaw10.LexCovers'. -/
def lexCoversCard : Claim7 := { stood := { row := lexCoversRow, standIns := [], harness := (true, "ddab31768361eb6416813d61d89ce6fa33d22b21570220556414a23127ba25af"), looks := true }, kinds := [], alts := [], laidByText := true, laidKinds := [.data], laidTests := true, laidLooks := .later }
def LexCoversCardSaid : Prop := Claim7.holds Tryz.pinned (.plain (OpenSpec.ofChange lexCoversSpec)) lexCoversCard

/-- THE SECOND FORM's CARD OF 'topiarylaw10.LexOne'. -/
def lexOneUptoCard : Claim7 := { stood := { row := lexOneUptoRow, standIns := [], harness := (true, "ddab31768361eb6416813d61d89ce6fa33d22b21570220556414a23127ba25af"), looks := true }, kinds := [], alts := [], laidByText := true, laidKinds := [.data], laidTests := true, laidLooks := .later }
def LexOneUptoCardSaid : Prop := Claim7.holds Tryz.pinned (.plain (OpenSpec.upto lexOneSpec)) lexOneUptoCard

/-- THE SECOND FORM's CARD OF 'topiarylaw10.LexAll'. -/
def lexAllUptoCard : Claim7 := { stood := { row := lexAllUptoRow, standIns := [], harness := (true, "ddab31768361eb6416813d61d89ce6fa33d22b21570220556414a23127ba25af"), looks := true }, kinds := [], alts := [], laidByText := true, laidKinds := [.data], laidTests := true, laidLooks := .later }
def LexAllUptoCardSaid : Prop := Claim7.holds Tryz.pinned (.plain (OpenSpec.upto lexAllSpec)) lexAllUptoCard

/-- THE SECOND FORM's CARD OF 'topiarylaw10.LexRules'. -/
def lexRulesUptoCard : Claim7 := { stood := { row := lexRulesUptoRow, standIns := [], harness := (true, "ddab31768361eb6416813d61d89ce6fa33d22b21570220556414a23127ba25af"), looks := true }, kinds := [], alts := [], laidByText := true, laidKinds := [.data], laidTests := true, laidLooks := .later }
def LexRulesUptoCardSaid : Prop := Claim7.holds Tryz.pinned (.plain (OpenSpec.upto lexRulesSpec)) lexRulesUptoCard

/-- THE SECOND FORM's CARD OF 'topiarylaw10.LexCovers'. -/
def lexCoversUptoCard : Claim7 := { stood := { row := lexCoversUptoRow, standIns := [], harness := (true, "ddab31768361eb6416813d61d89ce6fa33d22b21570220556414a23127ba25af"), looks := true }, kinds := [], alts := [], laidByText := true, laidKinds := [.data], laidTests := true, laidLooks := .later }
def LexCoversUptoCardSaid : Prop := Claim7.holds Tryz.pinned (.plain (OpenSpec.upto lexCoversSpec)) lexCoversUptoCard
end Rows
end Go.Proofs.YtonlcnmlklaicaaGreatDoor
