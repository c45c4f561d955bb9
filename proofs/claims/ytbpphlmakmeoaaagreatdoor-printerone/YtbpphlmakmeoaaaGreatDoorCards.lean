/-
  DERIVED. GIVEN WITH THE SEED: THE CARDS: each row of YtbpphlmakmeoaaaGreatDoorRows.lean that lists a variable, with what it lists TIED to the program's text (the seventh form; the later family's looks); each row that meets fmt, with fmt's text TOLD by the authors' own Lean function (tested against real Go, not proved from fmt's source: count such statements apart). THE CARD IS WHAT COUNTS. Prove the row's statement (the work); the ties are given (YtbpphlmakmeoaaaGreatDoorTie.lean); close each card by the builder's one call (the guide's Derived/Test/ToyasCard.lean, 'card_holds'). Laid BY PROGRAM, IN A SANDBOX (cutbox-door.mjs). By AI agents, Wed Nov 11 2026. No macro, syntax, notation, axiom, sorry.
-/
import Derived.Test.YtbpphlmakmeoaaaGreatDoorRows
import GoSem.ClaimSeven
namespace Go.Proofs.YtbpphlmakmeoaaaGreatDoor
namespace Rows

/-- THE TIED CARD OF 'lexpriorlaw06.PrinterTells'. -/
def printerTellsCard : Claim7 := { stood := { row := printerTellsRow, standIns := [], harness := (true, "bc7b46d48ff23be4572b7855dfa9e6925f254a6ae4e483bfb0830151867c8d0d"), looks := true }, kinds := [], alts := [], laidByText := true, laidKinds := [.data, .data, .data, .sentinel, .sentinel], laidTests := true, laidLooks := .later }
def PrinterTellsCardSaid : Prop := Claim7.holds Tryz.pinned (.plain (OpenSpec.ofChange printerTellsSpec)) printerTellsCard

/-- THE TIED CARD OF 'lexpriorlaw06.PrinterParts'. -/
def printerPartsCard : Claim7 := { stood := { row := printerPartsRow, standIns := [], harness := (true, "bc7b46d48ff23be4572b7855dfa9e6925f254a6ae4e483bfb0830151867c8d0d"), looks := true }, kinds := [], alts := [], laidByText := true, laidKinds := [.data, .data, .data, .sentinel, .sentinel], laidTests := true, laidLooks := .later }
def PrinterPartsCardSaid : Prop := Claim7.holds Tryz.pinned (.plain (OpenSpec.ofChange printerPartsSpec)) printerPartsCard

/-- THE TIED CARD OF 'lexpriorlaw06.PrinterNormal'. -/
def printerNormalCard : Claim7 := { stood := { row := printerNormalRow, standIns := [], harness := (true, "bc7b46d48ff23be4572b7855dfa9e6925f254a6ae4e483bfb0830151867c8d0d"), looks := true }, kinds := [], alts := [], laidByText := true, laidKinds := [.data, .data, .data, .sentinel, .sentinel], laidTests := true, laidLooks := .later }
def PrinterNormalCardSaid : Prop := Claim7.holds Tryz.pinned (.plain (OpenSpec.ofChange printerNormalSpec)) printerNormalCard

/-- THE TIED CARD OF 'lexpriorlaw06.PrinterBack'. -/
def printerBackCard : Claim7 := { stood := { row := printerBackRow, standIns := [], harness := (true, "bc7b46d48ff23be4572b7855dfa9e6925f254a6ae4e483bfb0830151867c8d0d"), looks := true }, kinds := [], alts := [], laidByText := true, laidKinds := [.data, .data, .data, .sentinel, .sentinel], laidTests := true, laidLooks := .later }
def PrinterBackCardSaid : Prop := Claim7.holds Tryz.pinned (.plain (OpenSpec.ofChange printerBackSpec)) printerBackCard

/-- THE TIED CARD OF 'lexpriorlaw06.PrinterOne'. -/
def printerOneCard : Claim7 := { stood := { row := printerOneRow, standIns := [], harness := (true, "bc7b46d48ff23be4572b7855dfa9e6925f254a6ae4e483bfb0830151867c8d0d"), looks := true }, kinds := [], alts := [], laidByText := true, laidKinds := [.data, .data, .data, .sentinel, .sentinel], laidTests := true, laidLooks := .later }
def PrinterOneCardSaid : Prop := Claim7.holds Tryz.pinned (.plain (OpenSpec.ofChange printerOneSpec)) printerOneCard

/-- THE TIED CARD OF 'lexpriorlaw06.PrinterLines'. -/
def printerLinesCard : Claim7 := { stood := { row := printerLinesRow, standIns := [], harness := (true, "bc7b46d48ff23be4572b7855dfa9e6925f254a6ae4e483bfb0830151867c8d0d"), looks := true }, kinds := [], alts := [], laidByText := true, laidKinds := [.data, .data, .data, .sentinel, .sentinel], laidTests := true, laidLooks := .later }
def PrinterLinesCardSaid : Prop := Claim7.holds Tryz.pinned (.plain (OpenSpec.ofChange printerLinesSpec)) printerLinesCard

/-- THE SECOND FORM's CARD OF 'lexpriorlaw06.PrinterTells'. -/
def printerTellsUptoCard : Claim7 := { stood := { row := printerTellsUptoRow, standIns := [], harness := (true, "bc7b46d48ff23be4572b7855dfa9e6925f254a6ae4e483bfb0830151867c8d0d"), looks := true }, kinds := [], alts := [], laidByText := true, laidKinds := [.data, .data, .data, .sentinel, .sentinel], laidTests := true, laidLooks := .later }
def PrinterTellsUptoCardSaid : Prop := Claim7.holds Tryz.pinned (.plain (OpenSpec.upto printerTellsSpec)) printerTellsUptoCard

/-- THE SECOND FORM's CARD OF 'lexpriorlaw06.PrinterParts'. -/
def printerPartsUptoCard : Claim7 := { stood := { row := printerPartsUptoRow, standIns := [], harness := (true, "bc7b46d48ff23be4572b7855dfa9e6925f254a6ae4e483bfb0830151867c8d0d"), looks := true }, kinds := [], alts := [], laidByText := true, laidKinds := [.data, .data, .data, .sentinel, .sentinel], laidTests := true, laidLooks := .later }
def PrinterPartsUptoCardSaid : Prop := Claim7.holds Tryz.pinned (.plain (OpenSpec.upto printerPartsSpec)) printerPartsUptoCard

/-- THE SECOND FORM's CARD OF 'lexpriorlaw06.PrinterNormal'. -/
def printerNormalUptoCard : Claim7 := { stood := { row := printerNormalUptoRow, standIns := [], harness := (true, "bc7b46d48ff23be4572b7855dfa9e6925f254a6ae4e483bfb0830151867c8d0d"), looks := true }, kinds := [], alts := [], laidByText := true, laidKinds := [.data, .data, .data, .sentinel, .sentinel], laidTests := true, laidLooks := .later }
def PrinterNormalUptoCardSaid : Prop := Claim7.holds Tryz.pinned (.plain (OpenSpec.upto printerNormalSpec)) printerNormalUptoCard

/-- THE SECOND FORM's CARD OF 'lexpriorlaw06.PrinterBack'. -/
def printerBackUptoCard : Claim7 := { stood := { row := printerBackUptoRow, standIns := [], harness := (true, "bc7b46d48ff23be4572b7855dfa9e6925f254a6ae4e483bfb0830151867c8d0d"), looks := true }, kinds := [], alts := [], laidByText := true, laidKinds := [.data, .data, .data, .sentinel, .sentinel], laidTests := true, laidLooks := .later }
def PrinterBackUptoCardSaid : Prop := Claim7.holds Tryz.pinned (.plain (OpenSpec.upto printerBackSpec)) printerBackUptoCard

/-- THE SECOND FORM's CARD OF 'lexpriorlaw06.PrinterOne'. -/
def printerOneUptoCard : Claim7 := { stood := { row := printerOneUptoRow, standIns := [], harness := (true, "bc7b46d48ff23be4572b7855dfa9e6925f254a6ae4e483bfb0830151867c8d0d"), looks := true }, kinds := [], alts := [], laidByText := true, laidKinds := [.data, .data, .data, .sentinel, .sentinel], laidTests := true, laidLooks := .later }
def PrinterOneUptoCardSaid : Prop := Claim7.holds Tryz.pinned (.plain (OpenSpec.upto printerOneSpec)) printerOneUptoCard

/-- THE SECOND FORM's CARD OF 'lexpriorlaw06.PrinterLines'. -/
def printerLinesUptoCard : Claim7 := { stood := { row := printerLinesUptoRow, standIns := [], harness := (true, "bc7b46d48ff23be4572b7855dfa9e6925f254a6ae4e483bfb0830151867c8d0d"), looks := true }, kinds := [], alts := [], laidByText := true, laidKinds := [.data, .data, .data, .sentinel, .sentinel], laidTests := true, laidLooks := .later }
def PrinterLinesUptoCardSaid : Prop := Claim7.holds Tryz.pinned (.plain (OpenSpec.upto printerLinesSpec)) printerLinesUptoCard
end Rows
end Go.Proofs.YtbpphlmakmeoaaaGreatDoor
