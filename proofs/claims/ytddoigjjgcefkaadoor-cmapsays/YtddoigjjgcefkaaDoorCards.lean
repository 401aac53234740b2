/-
  DERIVED. GIVEN WITH THE SEED: THE CARDS: each row of YtddoigjjgcefkaaDoorRows.lean that lists a variable, with what it lists TIED to the program's text (the seventh form; the later family's looks); each row that meets fmt, with fmt's text TOLD by the authors' own Lean function (tested against real Go, not proved from fmt's source: count such statements apart). THE CARD IS WHAT COUNTS. Prove the row's statement (the work); the ties are given (YtddoigjjgcefkaaDoorTie.lean); close each card by the builder's one call (the guide's Derived/Test/ToyasCard.lean, 'card_holds'). Laid BY PROGRAM, IN A SANDBOX (cutbox-door.mjs). By AI agents, Wed Nov 11 2026. No macro, syntax, notation, axiom, sorry.
-/
import Derived.Test.YtddoigjjgcefkaaDoorRows
import GoSem.ClaimSeven
namespace Go.Proofs.YtddoigjjgcefkaaDoor
namespace Rows

/-- THE TIED CARD OF 'foliowrightlaw.Names'. -/
def namesCard : Claim7 := { stood := { row := namesRow, standIns := [], harness := (true, "d3f129494bbe6447e752308d25df954f9332e201388d6021a9a55d087113ef8e"), looks := true }, kinds := [], alts := [], laidByText := true, laidKinds := [.data, .data, .data], laidTests := true, laidLooks := .later }
def NamesCardSaid : Prop := Claim7.holds Tryd.pinned (.plain (OpenSpec.ofChange namesSpec)) namesCard

/-- THE TIED CARD OF 'foliowrightlaw.FixSays'. -/
def fixSaysCard : Claim7 := { stood := { row := fixSaysRow, standIns := [], harness := (true, "d3f129494bbe6447e752308d25df954f9332e201388d6021a9a55d087113ef8e"), looks := true }, kinds := [], alts := [], laidByText := true, laidKinds := [.data, .data, .data], laidTests := true, laidLooks := .later }
def FixSaysCardSaid : Prop := Claim7.holds Tryd.pinned (.plain (OpenSpec.ofChange fixSaysSpec)) fixSaysCard

/-- THE TIED CARD OF 'foliowrightlaw.MatrixSays'. -/
def matrixSaysCard : Claim7 := { stood := { row := matrixSaysRow, standIns := [], harness := (true, "d3f129494bbe6447e752308d25df954f9332e201388d6021a9a55d087113ef8e"), looks := true }, kinds := [], alts := [], laidByText := true, laidKinds := [.data, .data, .data], laidTests := true, laidLooks := .later }
def MatrixSaysCardSaid : Prop := Claim7.holds Tryd.pinned (.plain (OpenSpec.ofChange matrixSaysSpec)) matrixSaysCard

/-- THE TIED CARD OF 'foliowrightlaw.ValueSays'. -/
def valueSaysCard : Claim7 := { stood := { row := valueSaysRow, standIns := [], harness := (true, "d3f129494bbe6447e752308d25df954f9332e201388d6021a9a55d087113ef8e"), looks := true }, kinds := [], alts := [], laidByText := true, laidKinds := [.data, .data, .data], laidTests := true, laidLooks := .later }
def ValueSaysCardSaid : Prop := Claim7.holds Tryd.pinned (.plain (OpenSpec.ofChange valueSaysSpec)) valueSaysCard

/-- THE TIED CARD OF 'foliowrighttop.TopFix'. -/
def topFixCard : Claim7 := { stood := { row := topFixRow, standIns := [], harness := (true, "d3f129494bbe6447e752308d25df954f9332e201388d6021a9a55d087113ef8e"), looks := true }, kinds := [], alts := [], laidByText := true, laidKinds := [.data, .data, .data], laidTests := true, laidLooks := .later }
def TopFixCardSaid : Prop := Claim7.holds Tryd.pinned (.plain (OpenSpec.ofChange topFixSpec)) topFixCard

/-- THE TIED CARD OF 'foliowrightlaw.CmapSays'. -/
def cmapSaysCard : Claim7 := { stood := { row := cmapSaysRow, standIns := [], harness := (true, "d3f129494bbe6447e752308d25df954f9332e201388d6021a9a55d087113ef8e"), looks := true }, kinds := [], alts := [], laidByText := true, laidKinds := [.data, .pinned], laidTests := true, laidLooks := .later }
def CmapSaysCardSaid : Prop := Claim7.holds Tryd.pinned (.plain (OpenSpec.ofChange cmapSaysSpec)) cmapSaysCard

/-- THE SECOND FORM's CARD OF 'foliowrightlaw.Names'. -/
def namesUptoCard : Claim7 := { stood := { row := namesUptoRow, standIns := [], harness := (true, "d3f129494bbe6447e752308d25df954f9332e201388d6021a9a55d087113ef8e"), looks := true }, kinds := [], alts := [], laidByText := true, laidKinds := [.data, .data, .data], laidTests := true, laidLooks := .later }
def NamesUptoCardSaid : Prop := Claim7.holds Tryd.pinned (.plain (OpenSpec.upto namesSpec)) namesUptoCard

/-- THE SECOND FORM's CARD OF 'foliowrightlaw.FixSays'. -/
def fixSaysUptoCard : Claim7 := { stood := { row := fixSaysUptoRow, standIns := [], harness := (true, "d3f129494bbe6447e752308d25df954f9332e201388d6021a9a55d087113ef8e"), looks := true }, kinds := [], alts := [], laidByText := true, laidKinds := [.data, .data, .data], laidTests := true, laidLooks := .later }
def FixSaysUptoCardSaid : Prop := Claim7.holds Tryd.pinned (.plain (OpenSpec.upto fixSaysSpec)) fixSaysUptoCard

/-- THE SECOND FORM's CARD OF 'foliowrightlaw.MatrixSays'. -/
def matrixSaysUptoCard : Claim7 := { stood := { row := matrixSaysUptoRow, standIns := [], harness := (true, "d3f129494bbe6447e752308d25df954f9332e201388d6021a9a55d087113ef8e"), looks := true }, kinds := [], alts := [], laidByText := true, laidKinds := [.data, .data, .data], laidTests := true, laidLooks := .later }
def MatrixSaysUptoCardSaid : Prop := Claim7.holds Tryd.pinned (.plain (OpenSpec.upto matrixSaysSpec)) matrixSaysUptoCard

/-- THE SECOND FORM's CARD OF 'foliowrightlaw.ValueSays'. -/
def valueSaysUptoCard : Claim7 := { stood := { row := valueSaysUptoRow, standIns := [], harness := (true, "d3f129494bbe6447e752308d25df954f9332e201388d6021a9a55d087113ef8e"), looks := true }, kinds := [], alts := [], laidByText := true, laidKinds := [.data, .data, .data], laidTests := true, laidLooks := .later }
def ValueSaysUptoCardSaid : Prop := Claim7.holds Tryd.pinned (.plain (OpenSpec.upto valueSaysSpec)) valueSaysUptoCard

/-- THE SECOND FORM's CARD OF 'foliowrighttop.TopFix'. -/
def topFixUptoCard : Claim7 := { stood := { row := topFixUptoRow, standIns := [], harness := (true, "d3f129494bbe6447e752308d25df954f9332e201388d6021a9a55d087113ef8e"), looks := true }, kinds := [], alts := [], laidByText := true, laidKinds := [.data, .data, .data], laidTests := true, laidLooks := .later }
def TopFixUptoCardSaid : Prop := Claim7.holds Tryd.pinned (.plain (OpenSpec.upto topFixSpec)) topFixUptoCard

/-- THE SECOND FORM's CARD OF 'foliowrightlaw.CmapSays'. -/
def cmapSaysUptoCard : Claim7 := { stood := { row := cmapSaysUptoRow, standIns := [], harness := (true, "d3f129494bbe6447e752308d25df954f9332e201388d6021a9a55d087113ef8e"), looks := true }, kinds := [], alts := [], laidByText := true, laidKinds := [.data, .pinned], laidTests := true, laidLooks := .later }
def CmapSaysUptoCardSaid : Prop := Claim7.holds Tryd.pinned (.plain (OpenSpec.upto cmapSaysSpec)) cmapSaysUptoCard
end Rows
end Go.Proofs.YtddoigjjgcefkaaDoor
