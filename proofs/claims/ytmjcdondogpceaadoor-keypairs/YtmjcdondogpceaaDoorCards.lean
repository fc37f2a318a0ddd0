/-
  DERIVED. GIVEN WITH THE SEED: THE CARDS: each row of YtmjcdondogpceaaDoorRows.lean that lists a variable, with what it lists TIED to the program's text (the seventh form; the later family's looks); each row that meets fmt, with fmt's text TOLD by the authors' own Lean function (tested against real Go, not proved from fmt's source: count such statements apart). THE CARD IS WHAT COUNTS. Prove the row's statement (the work); the ties are given (YtmjcdondogpceaaDoorTie.lean); close each card by the builder's one call (the guide's Derived/Test/ToyasCard.lean, 'card_holds'). Laid BY PROGRAM, IN A SANDBOX (cutbox-door.mjs). By AI agents, Wed Nov 11 2026. No macro, syntax, notation, axiom, sorry.
-/
import Derived.Test.YtmjcdondogpceaaDoorRows
import GoSem.ClaimSeven
namespace Go.Proofs.YtmjcdondogpceaaDoor
namespace Rows

/-- THE TIED CARD OF 'cortadolaw06.KeyPairs'. -/
def keyPairsCard : Claim7 := { stood := { row := keyPairsRow, standIns := [], harness := (true, "011a3fad1cad1e40fcb5ec55842d27ccc8c64173a79b7ba405711c018ba0434e"), looks := false }, kinds := [], alts := [], laidByText := true, laidKinds := [.data, .data], laidTests := true, laidLooks := .later }
def KeyPairsCardSaid : Prop := Claim7.holds Tryd.pinned (.plain (OpenSpec.ofChange keyPairsSpec)) keyPairsCard

/-- THE TIED CARD OF 'cortadolaw06.KeyBack'. -/
def keyBackCard : Claim7 := { stood := { row := keyBackRow, standIns := [], harness := (true, "011a3fad1cad1e40fcb5ec55842d27ccc8c64173a79b7ba405711c018ba0434e"), looks := false }, kinds := [], alts := [], laidByText := true, laidKinds := [.data], laidTests := true, laidLooks := .later }
def KeyBackCardSaid : Prop := Claim7.holds Tryd.pinned (.plain (OpenSpec.ofChange keyBackSpec)) keyBackCard

/-- THE TIED CARD OF 'cortadolaw06.KeyApart'. -/
def keyApartCard : Claim7 := { stood := { row := keyApartRow, standIns := [], harness := (true, "011a3fad1cad1e40fcb5ec55842d27ccc8c64173a79b7ba405711c018ba0434e"), looks := false }, kinds := [], alts := [], laidByText := true, laidKinds := [.data], laidTests := true, laidLooks := .later }
def KeyApartCardSaid : Prop := Claim7.holds Tryd.pinned (.plain (OpenSpec.ofChange keyApartSpec)) keyApartCard

/-- THE SECOND FORM's CARD OF 'cortadolaw06.KeyPairs'. -/
def keyPairsUptoCard : Claim7 := { stood := { row := keyPairsUptoRow, standIns := [], harness := (true, "011a3fad1cad1e40fcb5ec55842d27ccc8c64173a79b7ba405711c018ba0434e"), looks := false }, kinds := [], alts := [], laidByText := true, laidKinds := [.data, .data], laidTests := true, laidLooks := .later }
def KeyPairsUptoCardSaid : Prop := Claim7.holds Tryd.pinned (.plain (OpenSpec.upto keyPairsSpec)) keyPairsUptoCard

/-- THE SECOND FORM's CARD OF 'cortadolaw06.KeyBack'. -/
def keyBackUptoCard : Claim7 := { stood := { row := keyBackUptoRow, standIns := [], harness := (true, "011a3fad1cad1e40fcb5ec55842d27ccc8c64173a79b7ba405711c018ba0434e"), looks := false }, kinds := [], alts := [], laidByText := true, laidKinds := [.data], laidTests := true, laidLooks := .later }
def KeyBackUptoCardSaid : Prop := Claim7.holds Tryd.pinned (.plain (OpenSpec.upto keyBackSpec)) keyBackUptoCard

/-- THE SECOND FORM's CARD OF 'cortadolaw06.KeyApart'. -/
def keyApartUptoCard : Claim7 := { stood := { row := keyApartUptoRow, standIns := [], harness := (true, "011a3fad1cad1e40fcb5ec55842d27ccc8c64173a79b7ba405711c018ba0434e"), looks := false }, kinds := [], alts := [], laidByText := true, laidKinds := [.data], laidTests := true, laidLooks := .later }
def KeyApartUptoCardSaid : Prop := Claim7.holds Tryd.pinned (.plain (OpenSpec.upto keyApartSpec)) keyApartUptoCard
end Rows
end Go.Proofs.YtmjcdondogpceaaDoor
