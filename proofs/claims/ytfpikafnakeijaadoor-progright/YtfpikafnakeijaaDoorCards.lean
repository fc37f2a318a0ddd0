/-
  DERIVED. GIVEN WITH THE SEED: THE CARDS: each row of YtfpikafnakeijaaDoorRows.lean that lists a variable, with what it lists TIED to the program's text (the seventh form; the later family's looks); each row that meets fmt, with fmt's text TOLD by the authors' own Lean function (tested against real Go, not proved from fmt's source: count such statements apart). THE CARD IS WHAT COUNTS. Prove the row's statement (the work); the ties are given (YtfpikafnakeijaaDoorTie.lean); close each card by the builder's one call (the guide's Derived/Test/ToyasCard.lean, 'card_holds'). Laid BY PROGRAM, IN A SANDBOX (cutbox-door.mjs). By AI agents, Wed Nov 11 2026. No macro, syntax, notation, axiom, sorry.
-/
import Derived.Test.YtfpikafnakeijaaDoorRows
import GoSem.ClaimSeven
namespace Go.Proofs.YtfpikafnakeijaaDoor
namespace Rows

/-- THE TIED CARD OF 'cortadolaw17.ProgRight'. -/
def progRightCard : Claim7 := { stood := { row := progRightRow, standIns := [], harness := (true, "86c66093fa77894599cc29f6a333396f03d559927bd17200fd4f3907b404087a"), looks := false }, kinds := [], alts := [], laidByText := true, laidKinds := [.data], laidTests := true, laidLooks := .later }
def ProgRightCardSaid : Prop := Claim7.holds Tryd.pinned (.plain (OpenSpec.ofChange progRightSpec)) progRightCard

/-- THE TIED CARD OF 'cortadolaw17.ProgReads'. -/
def progReadsCard : Claim7 := { stood := { row := progReadsRow, standIns := [], harness := (true, "86c66093fa77894599cc29f6a333396f03d559927bd17200fd4f3907b404087a"), looks := false }, kinds := [], alts := [], laidByText := true, laidKinds := [.data], laidTests := true, laidLooks := .later }
def ProgReadsCardSaid : Prop := Claim7.holds Tryd.pinned (.plain (OpenSpec.ofChange progReadsSpec)) progReadsCard

/-- THE TIED CARD OF 'cortadolaw17.ProgBack'. -/
def progBackCard : Claim7 := { stood := { row := progBackRow, standIns := [], harness := (true, "86c66093fa77894599cc29f6a333396f03d559927bd17200fd4f3907b404087a"), looks := false }, kinds := [], alts := [], laidByText := true, laidKinds := [.data], laidTests := true, laidLooks := .later }
def ProgBackCardSaid : Prop := Claim7.holds Tryd.pinned (.plain (OpenSpec.ofChange progBackSpec)) progBackCard

/-- THE SECOND FORM's CARD OF 'cortadolaw17.ProgRight'. -/
def progRightUptoCard : Claim7 := { stood := { row := progRightUptoRow, standIns := [], harness := (true, "86c66093fa77894599cc29f6a333396f03d559927bd17200fd4f3907b404087a"), looks := false }, kinds := [], alts := [], laidByText := true, laidKinds := [.data], laidTests := true, laidLooks := .later }
def ProgRightUptoCardSaid : Prop := Claim7.holds Tryd.pinned (.plain (OpenSpec.upto progRightSpec)) progRightUptoCard

/-- THE SECOND FORM's CARD OF 'cortadolaw17.ProgReads'. -/
def progReadsUptoCard : Claim7 := { stood := { row := progReadsUptoRow, standIns := [], harness := (true, "86c66093fa77894599cc29f6a333396f03d559927bd17200fd4f3907b404087a"), looks := false }, kinds := [], alts := [], laidByText := true, laidKinds := [.data], laidTests := true, laidLooks := .later }
def ProgReadsUptoCardSaid : Prop := Claim7.holds Tryd.pinned (.plain (OpenSpec.upto progReadsSpec)) progReadsUptoCard

/-- THE SECOND FORM's CARD OF 'cortadolaw17.ProgBack'. -/
def progBackUptoCard : Claim7 := { stood := { row := progBackUptoRow, standIns := [], harness := (true, "86c66093fa77894599cc29f6a333396f03d559927bd17200fd4f3907b404087a"), looks := false }, kinds := [], alts := [], laidByText := true, laidKinds := [.data], laidTests := true, laidLooks := .later }
def ProgBackUptoCardSaid : Prop := Claim7.holds Tryd.pinned (.plain (OpenSpec.upto progBackSpec)) progBackUptoCard
end Rows
end Go.Proofs.YtfpikafnakeijaaDoor
