/-
  DERIVED. GIVEN WITH THE SEED: THE CARDS: each row of YtljfidbplecggaaDoorRows.lean that lists a variable, with what it lists TIED to the program's text (the seventh form; the later family's looks); each row that meets fmt, with fmt's text TOLD by the authors' own Lean function (tested against real Go, not proved from fmt's source: count such statements apart). THE CARD IS WHAT COUNTS. Prove the row's statement (the work); the ties are given (YtljfidbplecggaaDoorTie.lean); close each card by the builder's one call (the guide's Derived/Test/ToyasCard.lean, 'card_holds'). Laid BY PROGRAM, IN A SANDBOX (cutbox-door.mjs). By AI agents, Wed Nov 11 2026. No macro, syntax, notation, axiom, sorry.
-/
import Derived.Test.YtljfidbplecggaaDoorRows
import GoSem.ClaimSeven
namespace Go.Proofs.YtljfidbplecggaaDoor
namespace Rows

/-- THE TIED CARD OF 'cortadolaw11.SketchPlays'. -/
def sketchPlaysCard : Claim7 := { stood := { row := sketchPlaysRow, standIns := [], harness := (true, "7cd3e80005a9cb3aaf25e3a5917dbd9beff203ce8266bc4a5566273b98b53591"), looks := false }, kinds := [], alts := [], laidByText := true, laidKinds := [.data], laidTests := true, laidLooks := .later }
def SketchPlaysCardSaid : Prop := Claim7.holds Tryd.pinned (.plain (OpenSpec.ofChange sketchPlaysSpec)) sketchPlaysCard

/-- THE TIED CARD OF 'cortadolaw11.SketchLeast'. -/
def sketchLeastCard : Claim7 := { stood := { row := sketchLeastRow, standIns := [], harness := (true, "7cd3e80005a9cb3aaf25e3a5917dbd9beff203ce8266bc4a5566273b98b53591"), looks := false }, kinds := [], alts := [], laidByText := true, laidKinds := [.data], laidTests := true, laidLooks := .later }
def SketchLeastCardSaid : Prop := Claim7.holds Tryd.pinned (.plain (OpenSpec.ofChange sketchLeastSpec)) sketchLeastCard

/-- THE TIED CARD OF 'cortadolaw11.SketchApart'. -/
def sketchApartCard : Claim7 := { stood := { row := sketchApartRow, standIns := [], harness := (true, "7cd3e80005a9cb3aaf25e3a5917dbd9beff203ce8266bc4a5566273b98b53591"), looks := false }, kinds := [], alts := [], laidByText := true, laidKinds := [.data], laidTests := true, laidLooks := .later }
def SketchApartCardSaid : Prop := Claim7.holds Tryd.pinned (.plain (OpenSpec.ofChange sketchApartSpec)) sketchApartCard

/-- THE SECOND FORM's CARD OF 'cortadolaw11.SketchPlays'. -/
def sketchPlaysUptoCard : Claim7 := { stood := { row := sketchPlaysUptoRow, standIns := [], harness := (true, "7cd3e80005a9cb3aaf25e3a5917dbd9beff203ce8266bc4a5566273b98b53591"), looks := false }, kinds := [], alts := [], laidByText := true, laidKinds := [.data], laidTests := true, laidLooks := .later }
def SketchPlaysUptoCardSaid : Prop := Claim7.holds Tryd.pinned (.plain (OpenSpec.upto sketchPlaysSpec)) sketchPlaysUptoCard

/-- THE SECOND FORM's CARD OF 'cortadolaw11.SketchLeast'. -/
def sketchLeastUptoCard : Claim7 := { stood := { row := sketchLeastUptoRow, standIns := [], harness := (true, "7cd3e80005a9cb3aaf25e3a5917dbd9beff203ce8266bc4a5566273b98b53591"), looks := false }, kinds := [], alts := [], laidByText := true, laidKinds := [.data], laidTests := true, laidLooks := .later }
def SketchLeastUptoCardSaid : Prop := Claim7.holds Tryd.pinned (.plain (OpenSpec.upto sketchLeastSpec)) sketchLeastUptoCard

/-- THE SECOND FORM's CARD OF 'cortadolaw11.SketchApart'. -/
def sketchApartUptoCard : Claim7 := { stood := { row := sketchApartUptoRow, standIns := [], harness := (true, "7cd3e80005a9cb3aaf25e3a5917dbd9beff203ce8266bc4a5566273b98b53591"), looks := false }, kinds := [], alts := [], laidByText := true, laidKinds := [.data], laidTests := true, laidLooks := .later }
def SketchApartUptoCardSaid : Prop := Claim7.holds Tryd.pinned (.plain (OpenSpec.upto sketchApartSpec)) sketchApartUptoCard
end Rows
end Go.Proofs.YtljfidbplecggaaDoor
