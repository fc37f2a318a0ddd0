/-
  DERIVED. GIVEN WITH THE SEED: THE CARDS: each row of YthbniikenenijaaDoorRows.lean that lists a variable, with what it lists TIED to the program's text (the seventh form; the later family's looks); each row that meets fmt, with fmt's text TOLD by the authors' own Lean function (tested against real Go, not proved from fmt's source: count such statements apart). THE CARD IS WHAT COUNTS. Prove the row's statement (the work); the ties are given (YthbniikenenijaaDoorTie.lean); close each card by the builder's one call (the guide's Derived/Test/ToyasCard.lean, 'card_holds'). Laid BY PROGRAM, IN A SANDBOX (cutbox-door.mjs). By AI agents, Wed Nov 11 2026. No macro, syntax, notation, axiom, sorry.
-/
import Derived.Test.YthbniikenenijaaDoorRows
import GoSem.ClaimSeven
namespace Go.Proofs.YthbniikenenijaaDoor
namespace Rows

/-- THE TIED CARD OF 'cortadolaw15.DiceDraws'. -/
def diceDrawsCard : Claim7 := { stood := { row := diceDrawsRow, standIns := [], harness := (true, "ccdc7242f1c02761d6bd18ec7248c7fc49ba00e1e0f6868180f4a6989dbfbb40"), looks := false }, kinds := [], alts := [], laidByText := true, laidKinds := [.data], laidTests := true, laidLooks := .later }
def DiceDrawsCardSaid : Prop := Claim7.holds Tryd.pinned (.plain (OpenSpec.ofChange diceDrawsSpec)) diceDrawsCard

/-- THE TIED CARD OF 'cortadolaw15.DiceAlike'. -/
def diceAlikeCard : Claim7 := { stood := { row := diceAlikeRow, standIns := [], harness := (true, "ccdc7242f1c02761d6bd18ec7248c7fc49ba00e1e0f6868180f4a6989dbfbb40"), looks := false }, kinds := [], alts := [], laidByText := true, laidKinds := [.data], laidTests := true, laidLooks := .later }
def DiceAlikeCardSaid : Prop := Claim7.holds Tryd.pinned (.plain (OpenSpec.ofChange diceAlikeSpec)) diceAlikeCard

/-- THE SECOND FORM's CARD OF 'cortadolaw15.DiceDraws'. -/
def diceDrawsUptoCard : Claim7 := { stood := { row := diceDrawsUptoRow, standIns := [], harness := (true, "ccdc7242f1c02761d6bd18ec7248c7fc49ba00e1e0f6868180f4a6989dbfbb40"), looks := false }, kinds := [], alts := [], laidByText := true, laidKinds := [.data], laidTests := true, laidLooks := .later }
def DiceDrawsUptoCardSaid : Prop := Claim7.holds Tryd.pinned (.plain (OpenSpec.upto diceDrawsSpec)) diceDrawsUptoCard

/-- THE SECOND FORM's CARD OF 'cortadolaw15.DiceAlike'. -/
def diceAlikeUptoCard : Claim7 := { stood := { row := diceAlikeUptoRow, standIns := [], harness := (true, "ccdc7242f1c02761d6bd18ec7248c7fc49ba00e1e0f6868180f4a6989dbfbb40"), looks := false }, kinds := [], alts := [], laidByText := true, laidKinds := [.data], laidTests := true, laidLooks := .later }
def DiceAlikeUptoCardSaid : Prop := Claim7.holds Tryd.pinned (.plain (OpenSpec.upto diceAlikeSpec)) diceAlikeUptoCard
end Rows
end Go.Proofs.YthbniikenenijaaDoor
