/-
  DERIVED. GIVEN WITH THE SEED: THE CARDS: each row of YtddoigjjgcefkaaGreatDoorRows.lean that lists a variable, with what it lists TIED to the program's text (the seventh form; the later family's looks); each row that meets fmt, with fmt's text TOLD by the authors' own Lean function (tested against real Go, not proved from fmt's source: count such statements apart). THE CARD IS WHAT COUNTS. Prove the row's statement (the work); the ties are given (YtddoigjjgcefkaaGreatDoorTie.lean); close each card by the builder's one call (the guide's Derived/Test/ToyasCard.lean, 'card_holds'). Laid BY PROGRAM, IN A SANDBOX (cutbox-door.mjs). By AI agents, Wed Nov 11 2026. No macro, syntax, notation, axiom, sorry.
-/
import Derived.Test.YtddoigjjgcefkaaGreatDoorRows
import GoSem.ClaimSeven
namespace Go.Proofs.YtddoigjjgcefkaaGreatDoor
namespace Rows

/-- THE TIED CARD OF 'foliowrightlaw.ParseSays'. -/
def parseSaysCard : Claim7 := { stood := { row := parseSaysRow, standIns := [], harness := (true, "7d00db53ce6ad0068bf5710eb699683ad4afcf35d6b5d76da79a2c3b6fdd895f"), looks := true }, kinds := [], alts := [], laidByText := true, laidKinds := [.data, .data, .data, .sentinel, .sentinel], laidTests := true, laidLooks := .later }
def ParseSaysCardSaid : Prop := Claim7.holds Tryz.pinned (.plain (OpenSpec.ofChange parseSaysSpec)) parseSaysCard

/-- THE TIED CARD OF 'foliowrighttop.TopValue'. -/
def topValueCard : Claim7 := { stood := { row := topValueRow, standIns := [], harness := (true, "7d00db53ce6ad0068bf5710eb699683ad4afcf35d6b5d76da79a2c3b6fdd895f"), looks := true }, kinds := [], alts := [], laidByText := true, laidKinds := [.data, .data, .data, .sentinel, .sentinel], laidTests := true, laidLooks := .later }
def TopValueCardSaid : Prop := Claim7.holds Tryz.pinned (.plain (OpenSpec.ofChange topValueSpec)) topValueCard

/-- THE TIED CARD OF 'foliowrighttop.TopBlank'. -/
def topBlankCard : Claim7 := { stood := { row := topBlankRow, standIns := [], harness := (true, "7d00db53ce6ad0068bf5710eb699683ad4afcf35d6b5d76da79a2c3b6fdd895f"), looks := true }, kinds := [], alts := [], laidByText := true, laidKinds := [.data, .data, .data, .sentinel, .sentinel], laidTests := true, laidLooks := .later }
def TopBlankCardSaid : Prop := Claim7.holds Tryz.pinned (.plain (OpenSpec.ofChange topBlankSpec)) topBlankCard

/-- THE SECOND FORM's CARD OF 'foliowrightlaw.ParseSays'. -/
def parseSaysUptoCard : Claim7 := { stood := { row := parseSaysUptoRow, standIns := [], harness := (true, "7d00db53ce6ad0068bf5710eb699683ad4afcf35d6b5d76da79a2c3b6fdd895f"), looks := true }, kinds := [], alts := [], laidByText := true, laidKinds := [.data, .data, .data, .sentinel, .sentinel], laidTests := true, laidLooks := .later }
def ParseSaysUptoCardSaid : Prop := Claim7.holds Tryz.pinned (.plain (OpenSpec.upto parseSaysSpec)) parseSaysUptoCard

/-- THE SECOND FORM's CARD OF 'foliowrighttop.TopValue'. -/
def topValueUptoCard : Claim7 := { stood := { row := topValueUptoRow, standIns := [], harness := (true, "7d00db53ce6ad0068bf5710eb699683ad4afcf35d6b5d76da79a2c3b6fdd895f"), looks := true }, kinds := [], alts := [], laidByText := true, laidKinds := [.data, .data, .data, .sentinel, .sentinel], laidTests := true, laidLooks := .later }
def TopValueUptoCardSaid : Prop := Claim7.holds Tryz.pinned (.plain (OpenSpec.upto topValueSpec)) topValueUptoCard

/-- THE SECOND FORM's CARD OF 'foliowrighttop.TopBlank'. -/
def topBlankUptoCard : Claim7 := { stood := { row := topBlankUptoRow, standIns := [], harness := (true, "7d00db53ce6ad0068bf5710eb699683ad4afcf35d6b5d76da79a2c3b6fdd895f"), looks := true }, kinds := [], alts := [], laidByText := true, laidKinds := [.data, .data, .data, .sentinel, .sentinel], laidTests := true, laidLooks := .later }
def TopBlankUptoCardSaid : Prop := Claim7.holds Tryz.pinned (.plain (OpenSpec.upto topBlankSpec)) topBlankUptoCard
end Rows
end Go.Proofs.YtddoigjjgcefkaaGreatDoor
