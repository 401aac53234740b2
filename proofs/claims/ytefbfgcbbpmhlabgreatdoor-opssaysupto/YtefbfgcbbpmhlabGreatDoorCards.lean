/-
  DERIVED. GIVEN WITH THE SEED: THE CARDS: each row of YtefbfgcbbpmhlabGreatDoorRows.lean that lists a variable, with what it lists TIED to the program's text (the seventh form; the later family's looks); each row that meets fmt, with fmt's text TOLD by the authors' own Lean function (tested against real Go, not proved from fmt's source: count such statements apart). THE CARD IS WHAT COUNTS. Prove the row's statement (the work); the ties are given (YtefbfgcbbpmhlabGreatDoorTie.lean); close each card by the builder's one call (the guide's Derived/Test/ToyasCard.lean, 'card_holds'). Laid BY PROGRAM, IN A SANDBOX (cutbox-door.mjs). By AI agents, Wed Nov 11 2026. No macro, syntax, notation, axiom, sorry.
-/
import Derived.Test.YtefbfgcbbpmhlabGreatDoorRows
import GoSem.ClaimSeven
namespace Go.Proofs.YtefbfgcbbpmhlabGreatDoor
namespace Rows

/-- THE TIED CARD OF 'foliowrightlaw.FileSays'. -/
def fileSaysCard : Claim7 := { stood := { row := fileSaysRow, standIns := [], harness := (true, "72912e992027ae84e17d5ac05e68c2d0eac3f73a4ffde04bb3aca64c333d6da7"), looks := true }, kinds := [], alts := [], laidByText := true, laidKinds := [.data, .data, .data, .data, .sentinel, .sentinel, .pinned], laidTests := true, laidLooks := .later }
def FileSaysCardSaid : Prop := Claim7.holds Tryz.pinned (.plain (OpenSpec.ofChange fileSaysSpec)) fileSaysCard

/-- THE TIED CARD OF 'foliowrightlaw.FileReads'. -/
def fileReadsCard : Claim7 := { stood := { row := fileReadsRow, standIns := [], harness := (true, "72912e992027ae84e17d5ac05e68c2d0eac3f73a4ffde04bb3aca64c333d6da7"), looks := true }, kinds := [], alts := [], laidByText := true, laidKinds := [.data, .data, .data, .data, .sentinel, .sentinel, .pinned], laidTests := true, laidLooks := .later }
def FileReadsCardSaid : Prop := Claim7.holds Tryz.pinned (.plain (OpenSpec.ofChange fileReadsSpec)) fileReadsCard

/-- THE TIED CARD OF 'foliowrighttop.TopFile'. -/
def topFileCard : Claim7 := { stood := { row := topFileRow, standIns := [], harness := (true, "72912e992027ae84e17d5ac05e68c2d0eac3f73a4ffde04bb3aca64c333d6da7"), looks := true }, kinds := [], alts := [], laidByText := true, laidKinds := [.data, .data, .data, .data, .sentinel, .sentinel, .pinned], laidTests := true, laidLooks := .later }
def TopFileCardSaid : Prop := Claim7.holds Tryz.pinned (.plain (OpenSpec.ofChange topFileSpec)) topFileCard

/-- THE TIED CARD OF 'foliowrighttop.TopUpdate'. -/
def topUpdateCard : Claim7 := { stood := { row := topUpdateRow, standIns := [], harness := (true, "72912e992027ae84e17d5ac05e68c2d0eac3f73a4ffde04bb3aca64c333d6da7"), looks := true }, kinds := [], alts := [], laidByText := true, laidKinds := [.data, .data, .data, .data, .sentinel, .sentinel, .pinned], laidTests := true, laidLooks := .later }
def TopUpdateCardSaid : Prop := Claim7.holds Tryz.pinned (.plain (OpenSpec.ofChange topUpdateSpec)) topUpdateCard

/-- THE TIED CARD OF 'foliowrightlaw.FontSays'. -/
def fontSaysCard : Claim7 := { stood := { row := fontSaysRow, standIns := [], harness := (true, "72912e992027ae84e17d5ac05e68c2d0eac3f73a4ffde04bb3aca64c333d6da7"), looks := true }, kinds := [], alts := [], laidByText := true, laidKinds := [.data, .data, .data, .data, .sentinel, .sentinel, .pinned], laidTests := true, laidLooks := .later }
def FontSaysCardSaid : Prop := Claim7.holds Tryz.pinned (.plain (OpenSpec.ofChange fontSaysSpec)) fontSaysCard

/-- THE TIED CARD OF 'foliowrightlaw.OpsSays'. -/
def opsSaysCard : Claim7 := { stood := { row := opsSaysRow, standIns := [], harness := (true, "72912e992027ae84e17d5ac05e68c2d0eac3f73a4ffde04bb3aca64c333d6da7"), looks := true }, kinds := [], alts := [], laidByText := true, laidKinds := [.data, .data, .data, .sentinel, .sentinel], laidTests := true, laidLooks := .later }
def OpsSaysCardSaid : Prop := Claim7.holds Tryz.pinned (.plain (OpenSpec.ofChange opsSaysSpec)) opsSaysCard

/-- THE TIED CARD OF 'foliowrighttop.TopOps'. -/
def topOpsCard : Claim7 := { stood := { row := topOpsRow, standIns := [], harness := (true, "72912e992027ae84e17d5ac05e68c2d0eac3f73a4ffde04bb3aca64c333d6da7"), looks := true }, kinds := [], alts := [], laidByText := true, laidKinds := [.data, .data, .data, .sentinel, .sentinel], laidTests := true, laidLooks := .later }
def TopOpsCardSaid : Prop := Claim7.holds Tryz.pinned (.plain (OpenSpec.ofChange topOpsSpec)) topOpsCard

/-- THE SECOND FORM's CARD OF 'foliowrightlaw.FileSays'. -/
def fileSaysUptoCard : Claim7 := { stood := { row := fileSaysUptoRow, standIns := [], harness := (true, "72912e992027ae84e17d5ac05e68c2d0eac3f73a4ffde04bb3aca64c333d6da7"), looks := true }, kinds := [], alts := [], laidByText := true, laidKinds := [.data, .data, .data, .data, .sentinel, .sentinel, .pinned], laidTests := true, laidLooks := .later }
def FileSaysUptoCardSaid : Prop := Claim7.holds Tryz.pinned (.plain (OpenSpec.upto fileSaysSpec)) fileSaysUptoCard

/-- THE SECOND FORM's CARD OF 'foliowrightlaw.FileReads'. -/
def fileReadsUptoCard : Claim7 := { stood := { row := fileReadsUptoRow, standIns := [], harness := (true, "72912e992027ae84e17d5ac05e68c2d0eac3f73a4ffde04bb3aca64c333d6da7"), looks := true }, kinds := [], alts := [], laidByText := true, laidKinds := [.data, .data, .data, .data, .sentinel, .sentinel, .pinned], laidTests := true, laidLooks := .later }
def FileReadsUptoCardSaid : Prop := Claim7.holds Tryz.pinned (.plain (OpenSpec.upto fileReadsSpec)) fileReadsUptoCard

/-- THE SECOND FORM's CARD OF 'foliowrighttop.TopFile'. -/
def topFileUptoCard : Claim7 := { stood := { row := topFileUptoRow, standIns := [], harness := (true, "72912e992027ae84e17d5ac05e68c2d0eac3f73a4ffde04bb3aca64c333d6da7"), looks := true }, kinds := [], alts := [], laidByText := true, laidKinds := [.data, .data, .data, .data, .sentinel, .sentinel, .pinned], laidTests := true, laidLooks := .later }
def TopFileUptoCardSaid : Prop := Claim7.holds Tryz.pinned (.plain (OpenSpec.upto topFileSpec)) topFileUptoCard

/-- THE SECOND FORM's CARD OF 'foliowrighttop.TopUpdate'. -/
def topUpdateUptoCard : Claim7 := { stood := { row := topUpdateUptoRow, standIns := [], harness := (true, "72912e992027ae84e17d5ac05e68c2d0eac3f73a4ffde04bb3aca64c333d6da7"), looks := true }, kinds := [], alts := [], laidByText := true, laidKinds := [.data, .data, .data, .data, .sentinel, .sentinel, .pinned], laidTests := true, laidLooks := .later }
def TopUpdateUptoCardSaid : Prop := Claim7.holds Tryz.pinned (.plain (OpenSpec.upto topUpdateSpec)) topUpdateUptoCard

/-- THE SECOND FORM's CARD OF 'foliowrightlaw.FontSays'. -/
def fontSaysUptoCard : Claim7 := { stood := { row := fontSaysUptoRow, standIns := [], harness := (true, "72912e992027ae84e17d5ac05e68c2d0eac3f73a4ffde04bb3aca64c333d6da7"), looks := true }, kinds := [], alts := [], laidByText := true, laidKinds := [.data, .data, .data, .data, .sentinel, .sentinel, .pinned], laidTests := true, laidLooks := .later }
def FontSaysUptoCardSaid : Prop := Claim7.holds Tryz.pinned (.plain (OpenSpec.upto fontSaysSpec)) fontSaysUptoCard

/-- THE SECOND FORM's CARD OF 'foliowrightlaw.OpsSays'. -/
def opsSaysUptoCard : Claim7 := { stood := { row := opsSaysUptoRow, standIns := [], harness := (true, "72912e992027ae84e17d5ac05e68c2d0eac3f73a4ffde04bb3aca64c333d6da7"), looks := true }, kinds := [], alts := [], laidByText := true, laidKinds := [.data, .data, .data, .sentinel, .sentinel], laidTests := true, laidLooks := .later }
def OpsSaysUptoCardSaid : Prop := Claim7.holds Tryz.pinned (.plain (OpenSpec.upto opsSaysSpec)) opsSaysUptoCard

/-- THE SECOND FORM's CARD OF 'foliowrighttop.TopOps'. -/
def topOpsUptoCard : Claim7 := { stood := { row := topOpsUptoRow, standIns := [], harness := (true, "72912e992027ae84e17d5ac05e68c2d0eac3f73a4ffde04bb3aca64c333d6da7"), looks := true }, kinds := [], alts := [], laidByText := true, laidKinds := [.data, .data, .data, .sentinel, .sentinel], laidTests := true, laidLooks := .later }
def TopOpsUptoCardSaid : Prop := Claim7.holds Tryz.pinned (.plain (OpenSpec.upto topOpsSpec)) topOpsUptoCard
end Rows
end Go.Proofs.YtefbfgcbbpmhlabGreatDoor
