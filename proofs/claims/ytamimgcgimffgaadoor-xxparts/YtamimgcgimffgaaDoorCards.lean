/-
  DERIVED. GIVEN WITH THE SEED: THE CARDS: each row of YtamimgcgimffgaaDoorRows.lean that lists a variable, with what it lists TIED to the program's text (the seventh form; the later family's looks); each row that meets fmt, with fmt's text TOLD by the authors' own Lean function (tested against real Go, not proved from fmt's source: count such statements apart). THE CARD IS WHAT COUNTS. Prove the row's statement (the work); the ties are given (YtamimgcgimffgaaDoorTie.lean); close each card by the builder's one call (the guide's Derived/Test/ToyasCard.lean, 'card_holds'). Laid BY PROGRAM, IN A SANDBOX (cutbox-door.mjs). By AI agents, Wed Nov 11 2026. No macro, syntax, notation, axiom, sorry.
-/
import Derived.Test.YtamimgcgimffgaaDoorRows
import GoSem.ClaimSeven
namespace Go.Proofs.YtamimgcgimffgaaDoor
namespace Rows

/-- THE TIED CARD OF 'cortadolaw04.XxSums'. -/
def xxSumsCard : Claim7 := { stood := { row := xxSumsRow, standIns := [], harness := (true, "c765fc099970e562d8768554cd70e807e1fd1278181bce767e4beefff3a5c22a"), looks := false }, kinds := [], alts := [], laidByText := true, laidKinds := [.data], laidTests := true, laidLooks := .later }
def XxSumsCardSaid : Prop := Claim7.holds Tryd.pinned (.plain (OpenSpec.ofChange xxSumsSpec)) xxSumsCard

/-- THE TIED CARD OF 'cortadolaw04.XxParts'. -/
def xxPartsCard : Claim7 := { stood := { row := xxPartsRow, standIns := [], harness := (true, "c765fc099970e562d8768554cd70e807e1fd1278181bce767e4beefff3a5c22a"), looks := false }, kinds := [], alts := [], laidByText := true, laidKinds := [.data], laidTests := true, laidLooks := .later }
def XxPartsCardSaid : Prop := Claim7.holds Tryd.pinned (.plain (OpenSpec.ofChange xxPartsSpec)) xxPartsCard

/-- THE SECOND FORM's CARD OF 'cortadolaw04.XxSums'. -/
def xxSumsUptoCard : Claim7 := { stood := { row := xxSumsUptoRow, standIns := [], harness := (true, "c765fc099970e562d8768554cd70e807e1fd1278181bce767e4beefff3a5c22a"), looks := false }, kinds := [], alts := [], laidByText := true, laidKinds := [.data], laidTests := true, laidLooks := .later }
def XxSumsUptoCardSaid : Prop := Claim7.holds Tryd.pinned (.plain (OpenSpec.upto xxSumsSpec)) xxSumsUptoCard

/-- THE SECOND FORM's CARD OF 'cortadolaw04.XxParts'. -/
def xxPartsUptoCard : Claim7 := { stood := { row := xxPartsUptoRow, standIns := [], harness := (true, "c765fc099970e562d8768554cd70e807e1fd1278181bce767e4beefff3a5c22a"), looks := false }, kinds := [], alts := [], laidByText := true, laidKinds := [.data], laidTests := true, laidLooks := .later }
def XxPartsUptoCardSaid : Prop := Claim7.holds Tryd.pinned (.plain (OpenSpec.upto xxPartsSpec)) xxPartsUptoCard
end Rows
end Go.Proofs.YtamimgcgimffgaaDoor
