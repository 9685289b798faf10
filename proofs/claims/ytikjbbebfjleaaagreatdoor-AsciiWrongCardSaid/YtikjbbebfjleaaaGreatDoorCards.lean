/-
  DERIVED. GIVEN WITH THE SEED: THE CARDS: each row of YtikjbbebfjleaaaGreatDoorRows.lean that lists a variable, with what it lists TIED to the program's text (the seventh form; the later family's looks); each row that meets fmt, with fmt's text TOLD by the authors' own Lean function (tested against real Go, not proved from fmt's source: count such statements apart). THE CARD IS WHAT COUNTS. Prove the row's statement (the work); the ties are given (YtikjbbebfjleaaaGreatDoorTie.lean); close each card by the builder's one call (the guide's Derived/Test/ToyasCard.lean, 'card_holds'). Laid BY PROGRAM, IN A SANDBOX (cutbox-door.mjs). By AI agents, Wed Nov 11 2026. No macro, syntax, notation, axiom, sorry.
-/
import Derived.Test.YtikjbbebfjleaaaGreatDoorRows
import GoSem.ClaimSeven
namespace Go.Proofs.YtikjbbebfjleaaaGreatDoor
namespace Rows

/-- THE TIED CARD OF 'retorterlaw5.AsciiReads'. -/
def asciiReadsCard : Claim7 := { stood := { row := asciiReadsRow, standIns := [], harness := (true, "5ba30149d924809fb26c7ca95a635b349403741a769db605cbb59128daea34be"), looks := true }, kinds := [], alts := [], laidByText := true, laidKinds := [.data, .data, .data, .data, .sentinel, .sentinel, .pinned], laidTests := true, laidLooks := .later }
def AsciiReadsCardSaid : Prop := Claim7.holds Tryz.pinned (.plain (OpenSpec.ofChange asciiReadsSpec)) asciiReadsCard

/-- THE TIED CARD OF 'retorterlaw5.AsciiHeaders'. -/
def asciiHeadersCard : Claim7 := { stood := { row := asciiHeadersRow, standIns := [], harness := (true, "5ba30149d924809fb26c7ca95a635b349403741a769db605cbb59128daea34be"), looks := true }, kinds := [], alts := [], laidByText := true, laidKinds := [.data, .data, .data, .data, .sentinel, .sentinel, .pinned], laidTests := true, laidLooks := .later }
def AsciiHeadersCardSaid : Prop := Claim7.holds Tryz.pinned (.plain (OpenSpec.ofChange asciiHeadersSpec)) asciiHeadersCard

/-- THE TIED CARD OF 'retorterlaw5.AsciiComments'. -/
def asciiCommentsCard : Claim7 := { stood := { row := asciiCommentsRow, standIns := [], harness := (true, "5ba30149d924809fb26c7ca95a635b349403741a769db605cbb59128daea34be"), looks := true }, kinds := [], alts := [], laidByText := true, laidKinds := [.data, .data, .data, .data, .sentinel, .sentinel, .pinned], laidTests := true, laidLooks := .later }
def AsciiCommentsCardSaid : Prop := Claim7.holds Tryz.pinned (.plain (OpenSpec.ofChange asciiCommentsSpec)) asciiCommentsCard

/-- THE TIED CARD OF 'retorterlaw5.AsciiWrong'. -/
def asciiWrongCard : Claim7 := { stood := { row := asciiWrongRow, standIns := [], harness := (true, "5ba30149d924809fb26c7ca95a635b349403741a769db605cbb59128daea34be"), looks := true }, kinds := [], alts := [], laidByText := true, laidKinds := [.data, .data, .data, .data, .sentinel, .sentinel, .pinned], laidTests := true, laidLooks := .later }
def AsciiWrongCardSaid : Prop := Claim7.holds Tryz.pinned (.plain (OpenSpec.ofChange asciiWrongSpec)) asciiWrongCard

/-- THE TIED CARD OF 'retorterlaw6.BinaryReads'. -/
def binaryReadsCard : Claim7 := { stood := { row := binaryReadsRow, standIns := [], harness := (true, "5ba30149d924809fb26c7ca95a635b349403741a769db605cbb59128daea34be"), looks := true }, kinds := [], alts := [], laidByText := true, laidKinds := [.data, .data, .data, .data, .sentinel, .sentinel, .pinned], laidTests := true, laidLooks := .later }
def BinaryReadsCardSaid : Prop := Claim7.holds Tryz.pinned (.plain (OpenSpec.ofChange binaryReadsSpec)) binaryReadsCard

/-- THE TIED CARD OF 'retorterlaw6.BinaryAnds'. -/
def binaryAndsCard : Claim7 := { stood := { row := binaryAndsRow, standIns := [], harness := (true, "5ba30149d924809fb26c7ca95a635b349403741a769db605cbb59128daea34be"), looks := true }, kinds := [], alts := [], laidByText := true, laidKinds := [.data, .data, .data, .data, .sentinel, .sentinel, .pinned], laidTests := true, laidLooks := .later }
def BinaryAndsCardSaid : Prop := Claim7.holds Tryz.pinned (.plain (OpenSpec.ofChange binaryAndsSpec)) binaryAndsCard

/-- THE TIED CARD OF 'retorterlaw6.BinaryWrong'. -/
def binaryWrongCard : Claim7 := { stood := { row := binaryWrongRow, standIns := [], harness := (true, "5ba30149d924809fb26c7ca95a635b349403741a769db605cbb59128daea34be"), looks := true }, kinds := [], alts := [], laidByText := true, laidKinds := [.data, .data, .data, .data, .sentinel, .sentinel, .pinned], laidTests := true, laidLooks := .later }
def BinaryWrongCardSaid : Prop := Claim7.holds Tryz.pinned (.plain (OpenSpec.ofChange binaryWrongSpec)) binaryWrongCard

/-- THE TIED CARD OF 'retorterlaw7.PrinterBack'. -/
def printerBackCard : Claim7 := { stood := { row := printerBackRow, standIns := [], harness := (true, "5ba30149d924809fb26c7ca95a635b349403741a769db605cbb59128daea34be"), looks := true }, kinds := [], alts := [], laidByText := true, laidKinds := [.data, .data, .data, .data, .sentinel, .sentinel, .pinned], laidTests := true, laidLooks := .later }
def PrinterBackCardSaid : Prop := Claim7.holds Tryz.pinned (.plain (OpenSpec.ofChange printerBackSpec)) printerBackCard

/-- THE SECOND FORM's CARD OF 'retorterlaw5.AsciiReads'. -/
def asciiReadsUptoCard : Claim7 := { stood := { row := asciiReadsUptoRow, standIns := [], harness := (true, "5ba30149d924809fb26c7ca95a635b349403741a769db605cbb59128daea34be"), looks := true }, kinds := [], alts := [], laidByText := true, laidKinds := [.data, .data, .data, .data, .sentinel, .sentinel, .pinned], laidTests := true, laidLooks := .later }
def AsciiReadsUptoCardSaid : Prop := Claim7.holds Tryz.pinned (.plain (OpenSpec.upto asciiReadsSpec)) asciiReadsUptoCard

/-- THE SECOND FORM's CARD OF 'retorterlaw5.AsciiHeaders'. -/
def asciiHeadersUptoCard : Claim7 := { stood := { row := asciiHeadersUptoRow, standIns := [], harness := (true, "5ba30149d924809fb26c7ca95a635b349403741a769db605cbb59128daea34be"), looks := true }, kinds := [], alts := [], laidByText := true, laidKinds := [.data, .data, .data, .data, .sentinel, .sentinel, .pinned], laidTests := true, laidLooks := .later }
def AsciiHeadersUptoCardSaid : Prop := Claim7.holds Tryz.pinned (.plain (OpenSpec.upto asciiHeadersSpec)) asciiHeadersUptoCard

/-- THE SECOND FORM's CARD OF 'retorterlaw5.AsciiComments'. -/
def asciiCommentsUptoCard : Claim7 := { stood := { row := asciiCommentsUptoRow, standIns := [], harness := (true, "5ba30149d924809fb26c7ca95a635b349403741a769db605cbb59128daea34be"), looks := true }, kinds := [], alts := [], laidByText := true, laidKinds := [.data, .data, .data, .data, .sentinel, .sentinel, .pinned], laidTests := true, laidLooks := .later }
def AsciiCommentsUptoCardSaid : Prop := Claim7.holds Tryz.pinned (.plain (OpenSpec.upto asciiCommentsSpec)) asciiCommentsUptoCard

/-- THE SECOND FORM's CARD OF 'retorterlaw5.AsciiWrong'. -/
def asciiWrongUptoCard : Claim7 := { stood := { row := asciiWrongUptoRow, standIns := [], harness := (true, "5ba30149d924809fb26c7ca95a635b349403741a769db605cbb59128daea34be"), looks := true }, kinds := [], alts := [], laidByText := true, laidKinds := [.data, .data, .data, .data, .sentinel, .sentinel, .pinned], laidTests := true, laidLooks := .later }
def AsciiWrongUptoCardSaid : Prop := Claim7.holds Tryz.pinned (.plain (OpenSpec.upto asciiWrongSpec)) asciiWrongUptoCard

/-- THE SECOND FORM's CARD OF 'retorterlaw6.BinaryReads'. -/
def binaryReadsUptoCard : Claim7 := { stood := { row := binaryReadsUptoRow, standIns := [], harness := (true, "5ba30149d924809fb26c7ca95a635b349403741a769db605cbb59128daea34be"), looks := true }, kinds := [], alts := [], laidByText := true, laidKinds := [.data, .data, .data, .data, .sentinel, .sentinel, .pinned], laidTests := true, laidLooks := .later }
def BinaryReadsUptoCardSaid : Prop := Claim7.holds Tryz.pinned (.plain (OpenSpec.upto binaryReadsSpec)) binaryReadsUptoCard

/-- THE SECOND FORM's CARD OF 'retorterlaw6.BinaryAnds'. -/
def binaryAndsUptoCard : Claim7 := { stood := { row := binaryAndsUptoRow, standIns := [], harness := (true, "5ba30149d924809fb26c7ca95a635b349403741a769db605cbb59128daea34be"), looks := true }, kinds := [], alts := [], laidByText := true, laidKinds := [.data, .data, .data, .data, .sentinel, .sentinel, .pinned], laidTests := true, laidLooks := .later }
def BinaryAndsUptoCardSaid : Prop := Claim7.holds Tryz.pinned (.plain (OpenSpec.upto binaryAndsSpec)) binaryAndsUptoCard

/-- THE SECOND FORM's CARD OF 'retorterlaw6.BinaryWrong'. -/
def binaryWrongUptoCard : Claim7 := { stood := { row := binaryWrongUptoRow, standIns := [], harness := (true, "5ba30149d924809fb26c7ca95a635b349403741a769db605cbb59128daea34be"), looks := true }, kinds := [], alts := [], laidByText := true, laidKinds := [.data, .data, .data, .data, .sentinel, .sentinel, .pinned], laidTests := true, laidLooks := .later }
def BinaryWrongUptoCardSaid : Prop := Claim7.holds Tryz.pinned (.plain (OpenSpec.upto binaryWrongSpec)) binaryWrongUptoCard

/-- THE SECOND FORM's CARD OF 'retorterlaw7.PrinterBack'. -/
def printerBackUptoCard : Claim7 := { stood := { row := printerBackUptoRow, standIns := [], harness := (true, "5ba30149d924809fb26c7ca95a635b349403741a769db605cbb59128daea34be"), looks := true }, kinds := [], alts := [], laidByText := true, laidKinds := [.data, .data, .data, .data, .sentinel, .sentinel, .pinned], laidTests := true, laidLooks := .later }
def PrinterBackUptoCardSaid : Prop := Claim7.holds Tryz.pinned (.plain (OpenSpec.upto printerBackSpec)) printerBackUptoCard
end Rows
end Go.Proofs.YtikjbbebfjleaaaGreatDoor
