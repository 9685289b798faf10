/-
  DERIVED. GIVEN WITH THE SEED: THE CARDS: each row of YtcienhndnoepcaaGreatDoorRows.lean that lists a variable, with what it lists TIED to the program's text (the seventh form; the later family's looks); each row that meets fmt, with fmt's text TOLD by the authors' own Lean function (tested against real Go, not proved from fmt's source: count such statements apart). THE CARD IS WHAT COUNTS. Prove the row's statement (the work); the ties are given (YtcienhndnoepcaaGreatDoorTie.lean); close each card by the builder's one call (the guide's Derived/Test/ToyasCard.lean, 'card_holds'). Laid BY PROGRAM, IN A SANDBOX (cutbox-door.mjs). By AI agents, Wed Nov 11 2026. No macro, syntax, notation, axiom, sorry.
-/
import Derived.Test.YtcienhndnoepcaaGreatDoorRows
import GoSem.ClaimSeven
namespace Go.Proofs.YtcienhndnoepcaaGreatDoor
namespace Rows

/-- THE TIED CARD OF 'retorterlaw5.AsciiReads'. -/
def asciiReadsCard : Claim7 := { stood := { row := asciiReadsRow, standIns := [], harness := (true, "fbb0bfc0e0cad8d5b8fa2a51986d17939c893e37cdd5c489a380822b428e67f3"), looks := true }, kinds := [], alts := [], laidByText := true, laidKinds := [.data, .data, .data, .data, .sentinel, .sentinel, .pinned], laidTests := true, laidLooks := .later }
def AsciiReadsCardSaid : Prop := Claim7.holds Tryz.pinned (.plain (OpenSpec.ofChange asciiReadsSpec)) asciiReadsCard

/-- THE TIED CARD OF 'retorterlaw5.AsciiComments'. -/
def asciiCommentsCard : Claim7 := { stood := { row := asciiCommentsRow, standIns := [], harness := (true, "fbb0bfc0e0cad8d5b8fa2a51986d17939c893e37cdd5c489a380822b428e67f3"), looks := true }, kinds := [], alts := [], laidByText := true, laidKinds := [.data, .data, .data, .data, .sentinel, .sentinel, .pinned], laidTests := true, laidLooks := .later }
def AsciiCommentsCardSaid : Prop := Claim7.holds Tryz.pinned (.plain (OpenSpec.ofChange asciiCommentsSpec)) asciiCommentsCard

/-- THE TIED CARD OF 'retorterlaw6.BinaryReads'. -/
def binaryReadsCard : Claim7 := { stood := { row := binaryReadsRow, standIns := [], harness := (true, "fbb0bfc0e0cad8d5b8fa2a51986d17939c893e37cdd5c489a380822b428e67f3"), looks := true }, kinds := [], alts := [], laidByText := true, laidKinds := [.data, .data, .data, .data, .sentinel, .sentinel, .pinned], laidTests := true, laidLooks := .later }
def BinaryReadsCardSaid : Prop := Claim7.holds Tryz.pinned (.plain (OpenSpec.ofChange binaryReadsSpec)) binaryReadsCard

/-- THE TIED CARD OF 'retorterlaw6.BinaryAnds'. -/
def binaryAndsCard : Claim7 := { stood := { row := binaryAndsRow, standIns := [], harness := (true, "fbb0bfc0e0cad8d5b8fa2a51986d17939c893e37cdd5c489a380822b428e67f3"), looks := true }, kinds := [], alts := [], laidByText := true, laidKinds := [.data, .data, .data, .data, .sentinel, .sentinel, .pinned], laidTests := true, laidLooks := .later }
def BinaryAndsCardSaid : Prop := Claim7.holds Tryz.pinned (.plain (OpenSpec.ofChange binaryAndsSpec)) binaryAndsCard

/-- THE TIED CARD OF 'retorterlaw6.BinaryWrong'. -/
def binaryWrongCard : Claim7 := { stood := { row := binaryWrongRow, standIns := [], harness := (true, "fbb0bfc0e0cad8d5b8fa2a51986d17939c893e37cdd5c489a380822b428e67f3"), looks := true }, kinds := [], alts := [], laidByText := true, laidKinds := [.data, .data, .data, .data, .sentinel, .sentinel, .pinned], laidTests := true, laidLooks := .later }
def BinaryWrongCardSaid : Prop := Claim7.holds Tryz.pinned (.plain (OpenSpec.ofChange binaryWrongSpec)) binaryWrongCard

/-- THE TIED CARD OF 'retorterlaw7.PrinterBack'. -/
def printerBackCard : Claim7 := { stood := { row := printerBackRow, standIns := [], harness := (true, "fbb0bfc0e0cad8d5b8fa2a51986d17939c893e37cdd5c489a380822b428e67f3"), looks := true }, kinds := [], alts := [], laidByText := true, laidKinds := [.data, .data, .data, .data, .sentinel, .sentinel, .pinned], laidTests := true, laidLooks := .later }
def PrinterBackCardSaid : Prop := Claim7.holds Tryz.pinned (.plain (OpenSpec.ofChange printerBackSpec)) printerBackCard

/-- THE SECOND FORM's CARD OF 'retorterlaw5.AsciiReads'. -/
def asciiReadsUptoCard : Claim7 := { stood := { row := asciiReadsUptoRow, standIns := [], harness := (true, "fbb0bfc0e0cad8d5b8fa2a51986d17939c893e37cdd5c489a380822b428e67f3"), looks := true }, kinds := [], alts := [], laidByText := true, laidKinds := [.data, .data, .data, .data, .sentinel, .sentinel, .pinned], laidTests := true, laidLooks := .later }
def AsciiReadsUptoCardSaid : Prop := Claim7.holds Tryz.pinned (.plain (OpenSpec.upto asciiReadsSpec)) asciiReadsUptoCard

/-- THE SECOND FORM's CARD OF 'retorterlaw5.AsciiComments'. -/
def asciiCommentsUptoCard : Claim7 := { stood := { row := asciiCommentsUptoRow, standIns := [], harness := (true, "fbb0bfc0e0cad8d5b8fa2a51986d17939c893e37cdd5c489a380822b428e67f3"), looks := true }, kinds := [], alts := [], laidByText := true, laidKinds := [.data, .data, .data, .data, .sentinel, .sentinel, .pinned], laidTests := true, laidLooks := .later }
def AsciiCommentsUptoCardSaid : Prop := Claim7.holds Tryz.pinned (.plain (OpenSpec.upto asciiCommentsSpec)) asciiCommentsUptoCard

/-- THE SECOND FORM's CARD OF 'retorterlaw6.BinaryReads'. -/
def binaryReadsUptoCard : Claim7 := { stood := { row := binaryReadsUptoRow, standIns := [], harness := (true, "fbb0bfc0e0cad8d5b8fa2a51986d17939c893e37cdd5c489a380822b428e67f3"), looks := true }, kinds := [], alts := [], laidByText := true, laidKinds := [.data, .data, .data, .data, .sentinel, .sentinel, .pinned], laidTests := true, laidLooks := .later }
def BinaryReadsUptoCardSaid : Prop := Claim7.holds Tryz.pinned (.plain (OpenSpec.upto binaryReadsSpec)) binaryReadsUptoCard

/-- THE SECOND FORM's CARD OF 'retorterlaw6.BinaryAnds'. -/
def binaryAndsUptoCard : Claim7 := { stood := { row := binaryAndsUptoRow, standIns := [], harness := (true, "fbb0bfc0e0cad8d5b8fa2a51986d17939c893e37cdd5c489a380822b428e67f3"), looks := true }, kinds := [], alts := [], laidByText := true, laidKinds := [.data, .data, .data, .data, .sentinel, .sentinel, .pinned], laidTests := true, laidLooks := .later }
def BinaryAndsUptoCardSaid : Prop := Claim7.holds Tryz.pinned (.plain (OpenSpec.upto binaryAndsSpec)) binaryAndsUptoCard

/-- THE SECOND FORM's CARD OF 'retorterlaw6.BinaryWrong'. -/
def binaryWrongUptoCard : Claim7 := { stood := { row := binaryWrongUptoRow, standIns := [], harness := (true, "fbb0bfc0e0cad8d5b8fa2a51986d17939c893e37cdd5c489a380822b428e67f3"), looks := true }, kinds := [], alts := [], laidByText := true, laidKinds := [.data, .data, .data, .data, .sentinel, .sentinel, .pinned], laidTests := true, laidLooks := .later }
def BinaryWrongUptoCardSaid : Prop := Claim7.holds Tryz.pinned (.plain (OpenSpec.upto binaryWrongSpec)) binaryWrongUptoCard

/-- THE SECOND FORM's CARD OF 'retorterlaw7.PrinterBack'. -/
def printerBackUptoCard : Claim7 := { stood := { row := printerBackUptoRow, standIns := [], harness := (true, "fbb0bfc0e0cad8d5b8fa2a51986d17939c893e37cdd5c489a380822b428e67f3"), looks := true }, kinds := [], alts := [], laidByText := true, laidKinds := [.data, .data, .data, .data, .sentinel, .sentinel, .pinned], laidTests := true, laidLooks := .later }
def PrinterBackUptoCardSaid : Prop := Claim7.holds Tryz.pinned (.plain (OpenSpec.upto printerBackSpec)) printerBackUptoCard
end Rows
end Go.Proofs.YtcienhndnoepcaaGreatDoor
