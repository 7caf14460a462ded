/-
  DERIVED. GIVEN WITH THE SEED: THE CARDS: each row of YticcgmegimiegaaGreatDoorRows.lean that lists a variable, with what it lists TIED to the program's text (the seventh form; the later family's looks); each row that meets fmt, with fmt's text TOLD by the authors' own Lean function (tested against real Go, not proved from fmt's source: count such statements apart). THE CARD IS WHAT COUNTS. Prove the row's statement (the work); the ties are given (YticcgmegimiegaaGreatDoorTie.lean); close each card by the builder's one call (the guide's Derived/Test/ToyasCard.lean, 'card_holds'). Laid BY PROGRAM, IN A SANDBOX (cutbox-door.mjs). By AI agents, Wed Nov 11 2026. No macro, syntax, notation, axiom, sorry.
-/
import Derived.Test.YticcgmegimiegaaGreatDoorRows
import GoSem.ClaimSeven
namespace Go.Proofs.YticcgmegimiegaaGreatDoor
namespace Rows

/-- THE TIED CARD OF 'salvorlaw06.DimacsWrites'. -/
def dimacsWritesCard : Claim7 := { stood := { row := dimacsWritesRow, standIns := [], harness := (true, "5234cb1e61f31e3b8324a90f103033227da8664856b49e0eff3d6198570a50a0"), looks := true }, kinds := [], alts := [], laidByText := true, laidKinds := [.data, .data, .data, .data, .sentinel, .sentinel, .pinned], laidTests := true, laidLooks := .later }
def DimacsWritesCardSaid : Prop := Claim7.holds Tryz.pinned (.plain (OpenSpec.ofChange dimacsWritesSpec)) dimacsWritesCard

/-- THE TIED CARD OF 'salvorlaw06.DimacsReads'. -/
def dimacsReadsCard : Claim7 := { stood := { row := dimacsReadsRow, standIns := [], harness := (true, "5234cb1e61f31e3b8324a90f103033227da8664856b49e0eff3d6198570a50a0"), looks := true }, kinds := [], alts := [], laidByText := true, laidKinds := [.data, .data, .data, .data, .sentinel, .sentinel, .pinned], laidTests := true, laidLooks := .later }
def DimacsReadsCardSaid : Prop := Claim7.holds Tryz.pinned (.plain (OpenSpec.ofChange dimacsReadsSpec)) dimacsReadsCard

/-- THE TIED CARD OF 'salvorlaw06.DimacsSmall'. -/
def dimacsSmallCard : Claim7 := { stood := { row := dimacsSmallRow, standIns := [], harness := (true, "5234cb1e61f31e3b8324a90f103033227da8664856b49e0eff3d6198570a50a0"), looks := true }, kinds := [], alts := [], laidByText := true, laidKinds := [.data, .data, .data, .data, .sentinel, .sentinel, .pinned], laidTests := true, laidLooks := .later }
def DimacsSmallCardSaid : Prop := Claim7.holds Tryz.pinned (.plain (OpenSpec.ofChange dimacsSmallSpec)) dimacsSmallCard

/-- THE TIED CARD OF 'salvorlaw06.DimacsBack'. -/
def dimacsBackCard : Claim7 := { stood := { row := dimacsBackRow, standIns := [], harness := (true, "5234cb1e61f31e3b8324a90f103033227da8664856b49e0eff3d6198570a50a0"), looks := true }, kinds := [], alts := [], laidByText := true, laidKinds := [.data, .data, .data, .data, .sentinel, .sentinel, .pinned], laidTests := true, laidLooks := .later }
def DimacsBackCardSaid : Prop := Claim7.holds Tryz.pinned (.plain (OpenSpec.ofChange dimacsBackSpec)) dimacsBackCard

/-- THE TIED CARD OF 'salvorlaw06.DimacsSpaces'. -/
def dimacsSpacesCard : Claim7 := { stood := { row := dimacsSpacesRow, standIns := [], harness := (true, "5234cb1e61f31e3b8324a90f103033227da8664856b49e0eff3d6198570a50a0"), looks := true }, kinds := [], alts := [], laidByText := true, laidKinds := [.data, .data, .data, .data, .sentinel, .sentinel, .pinned], laidTests := true, laidLooks := .later }
def DimacsSpacesCardSaid : Prop := Claim7.holds Tryz.pinned (.plain (OpenSpec.ofChange dimacsSpacesSpec)) dimacsSpacesCard

/-- THE TIED CARD OF 'salvorlaw06.DimacsLines'. -/
def dimacsLinesCard : Claim7 := { stood := { row := dimacsLinesRow, standIns := [], harness := (true, "5234cb1e61f31e3b8324a90f103033227da8664856b49e0eff3d6198570a50a0"), looks := true }, kinds := [], alts := [], laidByText := true, laidKinds := [.data, .data, .data, .data, .sentinel, .sentinel, .listed, .data, .pinned], laidTests := true, laidLooks := .later }
def DimacsLinesCardSaid : Prop := Claim7.holds Tryz.pinned (.plain (OpenSpec.ofChange dimacsLinesSpec)) dimacsLinesCard

/-- THE TIED CARD OF 'salvorlaw06.DimacsCounts'. -/
def dimacsCountsCard : Claim7 := { stood := { row := dimacsCountsRow, standIns := [], harness := (true, "5234cb1e61f31e3b8324a90f103033227da8664856b49e0eff3d6198570a50a0"), looks := true }, kinds := [], alts := [], laidByText := true, laidKinds := [.data, .data, .data, .data, .sentinel, .sentinel, .pinned], laidTests := true, laidLooks := .later }
def DimacsCountsCardSaid : Prop := Claim7.holds Tryz.pinned (.plain (OpenSpec.ofChange dimacsCountsSpec)) dimacsCountsCard

/-- THE TIED CARD OF 'salvorlaw06.DimacsWrong'. -/
def dimacsWrongCard : Claim7 := { stood := { row := dimacsWrongRow, standIns := [], harness := (true, "5234cb1e61f31e3b8324a90f103033227da8664856b49e0eff3d6198570a50a0"), looks := true }, kinds := [], alts := [], laidByText := true, laidKinds := [.data, .data, .data, .data, .sentinel, .sentinel, .pinned], laidTests := true, laidLooks := .later }
def DimacsWrongCardSaid : Prop := Claim7.holds Tryz.pinned (.plain (OpenSpec.ofChange dimacsWrongSpec)) dimacsWrongCard

/-- THE SECOND FORM's CARD OF 'salvorlaw06.DimacsWrites'. -/
def dimacsWritesUptoCard : Claim7 := { stood := { row := dimacsWritesUptoRow, standIns := [], harness := (true, "5234cb1e61f31e3b8324a90f103033227da8664856b49e0eff3d6198570a50a0"), looks := true }, kinds := [], alts := [], laidByText := true, laidKinds := [.data, .data, .data, .data, .sentinel, .sentinel, .pinned], laidTests := true, laidLooks := .later }
def DimacsWritesUptoCardSaid : Prop := Claim7.holds Tryz.pinned (.plain (OpenSpec.upto dimacsWritesSpec)) dimacsWritesUptoCard

/-- THE SECOND FORM's CARD OF 'salvorlaw06.DimacsReads'. -/
def dimacsReadsUptoCard : Claim7 := { stood := { row := dimacsReadsUptoRow, standIns := [], harness := (true, "5234cb1e61f31e3b8324a90f103033227da8664856b49e0eff3d6198570a50a0"), looks := true }, kinds := [], alts := [], laidByText := true, laidKinds := [.data, .data, .data, .data, .sentinel, .sentinel, .pinned], laidTests := true, laidLooks := .later }
def DimacsReadsUptoCardSaid : Prop := Claim7.holds Tryz.pinned (.plain (OpenSpec.upto dimacsReadsSpec)) dimacsReadsUptoCard

/-- THE SECOND FORM's CARD OF 'salvorlaw06.DimacsSmall'. -/
def dimacsSmallUptoCard : Claim7 := { stood := { row := dimacsSmallUptoRow, standIns := [], harness := (true, "5234cb1e61f31e3b8324a90f103033227da8664856b49e0eff3d6198570a50a0"), looks := true }, kinds := [], alts := [], laidByText := true, laidKinds := [.data, .data, .data, .data, .sentinel, .sentinel, .pinned], laidTests := true, laidLooks := .later }
def DimacsSmallUptoCardSaid : Prop := Claim7.holds Tryz.pinned (.plain (OpenSpec.upto dimacsSmallSpec)) dimacsSmallUptoCard

/-- THE SECOND FORM's CARD OF 'salvorlaw06.DimacsBack'. -/
def dimacsBackUptoCard : Claim7 := { stood := { row := dimacsBackUptoRow, standIns := [], harness := (true, "5234cb1e61f31e3b8324a90f103033227da8664856b49e0eff3d6198570a50a0"), looks := true }, kinds := [], alts := [], laidByText := true, laidKinds := [.data, .data, .data, .data, .sentinel, .sentinel, .pinned], laidTests := true, laidLooks := .later }
def DimacsBackUptoCardSaid : Prop := Claim7.holds Tryz.pinned (.plain (OpenSpec.upto dimacsBackSpec)) dimacsBackUptoCard

/-- THE SECOND FORM's CARD OF 'salvorlaw06.DimacsSpaces'. -/
def dimacsSpacesUptoCard : Claim7 := { stood := { row := dimacsSpacesUptoRow, standIns := [], harness := (true, "5234cb1e61f31e3b8324a90f103033227da8664856b49e0eff3d6198570a50a0"), looks := true }, kinds := [], alts := [], laidByText := true, laidKinds := [.data, .data, .data, .data, .sentinel, .sentinel, .pinned], laidTests := true, laidLooks := .later }
def DimacsSpacesUptoCardSaid : Prop := Claim7.holds Tryz.pinned (.plain (OpenSpec.upto dimacsSpacesSpec)) dimacsSpacesUptoCard

/-- THE SECOND FORM's CARD OF 'salvorlaw06.DimacsLines'. -/
def dimacsLinesUptoCard : Claim7 := { stood := { row := dimacsLinesUptoRow, standIns := [], harness := (true, "5234cb1e61f31e3b8324a90f103033227da8664856b49e0eff3d6198570a50a0"), looks := true }, kinds := [], alts := [], laidByText := true, laidKinds := [.data, .data, .data, .data, .sentinel, .sentinel, .listed, .data, .pinned], laidTests := true, laidLooks := .later }
def DimacsLinesUptoCardSaid : Prop := Claim7.holds Tryz.pinned (.plain (OpenSpec.upto dimacsLinesSpec)) dimacsLinesUptoCard

/-- THE SECOND FORM's CARD OF 'salvorlaw06.DimacsCounts'. -/
def dimacsCountsUptoCard : Claim7 := { stood := { row := dimacsCountsUptoRow, standIns := [], harness := (true, "5234cb1e61f31e3b8324a90f103033227da8664856b49e0eff3d6198570a50a0"), looks := true }, kinds := [], alts := [], laidByText := true, laidKinds := [.data, .data, .data, .data, .sentinel, .sentinel, .pinned], laidTests := true, laidLooks := .later }
def DimacsCountsUptoCardSaid : Prop := Claim7.holds Tryz.pinned (.plain (OpenSpec.upto dimacsCountsSpec)) dimacsCountsUptoCard

/-- THE SECOND FORM's CARD OF 'salvorlaw06.DimacsWrong'. -/
def dimacsWrongUptoCard : Claim7 := { stood := { row := dimacsWrongUptoRow, standIns := [], harness := (true, "5234cb1e61f31e3b8324a90f103033227da8664856b49e0eff3d6198570a50a0"), looks := true }, kinds := [], alts := [], laidByText := true, laidKinds := [.data, .data, .data, .data, .sentinel, .sentinel, .pinned], laidTests := true, laidLooks := .later }
def DimacsWrongUptoCardSaid : Prop := Claim7.holds Tryz.pinned (.plain (OpenSpec.upto dimacsWrongSpec)) dimacsWrongUptoCard
end Rows
end Go.Proofs.YticcgmegimiegaaGreatDoor
