/-
  NARROWER THAN 'FOR EVERY INPUT', by the rows' own cells (each row's printed sentence says how): XxSums: laid · XxParts: laid.
  DERIVED. THE GIVEN ROWS OF THIS SEAT. 2 by the template 'for every input the law returns true; each argument reads behind the call as it read before'; 0 by the template 'total and deterministic' (their statements: YtamimgcgimffgaaDoorTotals.lean).
  GIVEN WITH THE SEED: the statements are not yours to turn. If you find one false, say at which input.
  Laid BY PROGRAM, IN A SANDBOX (cutbox-rows.mjs): the forced cells as the released guide's own fill.sh prints them over the translation 83e356a4326d886c… (all of the seat's roots in one cut). By AI agents, Wed Nov 11 2026. No macro, syntax, notation, axiom, sorry.
-/
import Derived.Test.YtamimgcgimffgaaDoorChecked
import GoSem.Claim
import GoSem.ClaimJoined
import GoSem.ClaimMapViews
import Derived.JoinedTies
import Derived.KernelRfl
namespace Go.Proofs.YtamimgcgimffgaaDoor
/- THE CELL 'sum', in the pinned program and in every row, IS THE sha256 OF THE DUMP (.gsa) THAT YtamimgcgimffgaaDoorProg.lean LOADS. Nothing in Lean hashes anything: it is a label: what it is worth is what the hold of that sum in a sandbox is worth. -/
noncomputable def Tryd.pinned : Pinned := { name := "ytamimgcgimffgaadoor", sum := "83e356a4326d886c8b0d76da86596dd816f8eceb4ae9f1d752f4e2de49d84613", checked := Tryd.checked }
namespace Rows
def none {H : Type} : Left H := { results := [], args := [] }

/- WHAT THE LISTED PACKAGE-LEVEL VARIABLES READ AS WHEN THE CALL BEGINS. Each datum BY PROGRAM (the guide's laid-datum.mjs) off the statement by which the dump's own 'gosem.cut.vars' lays the variable. In a bare row this is a premise. The card (YtamimgcgimffgaaDoorCards.lean) ties it to the program's text. -/
def laid_cortado_xx_turns {H : Type} : DataW H := .agg [.lit (.int .i64 1), .lit (.int .i64 7), .lit (.int .i64 12), .lit (.int .i64 18)]

/-- 'cortadolaw04.XxSums': WHATEVER THE INPUT: true; the input reads as it did. -/
def xxSumsSpec : ChangeSpec := { name := "xxSums", fn := fun _ => fun
  | [d1, d2] => { results := [.lit (.bool true)], args := [d1, d2] }
  | _ => none }
def xxSumsRow : OpenClaim := { program := "ytamimgcgimffgaadoor", sum := "83e356a4326d886c8b0d76da86596dd816f8eceb4ae9f1d752f4e2de49d84613", func := "cortado/cortadolaw04.XxSums", spec := "xxSums", named := ["cortado/xx.turns"], apart := false, laid := [("cortado/xx.turns", laid_cortado_xx_turns)] }
def XxSumsSaid : Prop := xxSumsRow.holds Tryd.pinned (OpenSpec.ofChange xxSumsSpec)

/-- ITS FALSE NEIGHBOUR: 'it returns false'. Refute it at one input. -/
def xxSumsWrong : ChangeSpec := { name := "xxSums", fn := fun _ => fun
  | [d1, d2] => { results := [.lit (.bool false)], args := [d1, d2] }
  | _ => none }
def XxSumsWrongFalsely : Prop := xxSumsRow.holds Tryd.pinned (OpenSpec.ofChange xxSumsWrong)

/-- 'cortadolaw04.XxParts': WHATEVER THE INPUT: true; the input reads as it did. -/
def xxPartsSpec : ChangeSpec := { name := "xxParts", fn := fun _ => fun
  | [d1, d2] => { results := [.lit (.bool true)], args := [d1, d2] }
  | _ => none }
def xxPartsRow : OpenClaim := { program := "ytamimgcgimffgaadoor", sum := "83e356a4326d886c8b0d76da86596dd816f8eceb4ae9f1d752f4e2de49d84613", func := "cortado/cortadolaw04.XxParts", spec := "xxParts", named := ["cortado/xx.turns"], apart := false, laid := [("cortado/xx.turns", laid_cortado_xx_turns)] }
def XxPartsSaid : Prop := xxPartsRow.holds Tryd.pinned (OpenSpec.ofChange xxPartsSpec)

/-- ITS FALSE NEIGHBOUR: 'it returns false'. Refute it at one input. -/
def xxPartsWrong : ChangeSpec := { name := "xxParts", fn := fun _ => fun
  | [d1, d2] => { results := [.lit (.bool false)], args := [d1, d2] }
  | _ => none }
def XxPartsWrongFalsely : Prop := xxPartsRow.holds Tryd.pinned (OpenSpec.ofChange xxPartsWrong)

/- THE SECOND FORM. 'bulk': how many values and letters a reading holds, each counted each time it is reached (what is shared counts as often as it is met; a slice's spare places count too). A statement '..UptoSaid' is the law's where the arguments, and the package variables that the reading takes, are together of bulk at most 1048576: NARROWER than '..Said'. Prove '..Said' where nothing that the law and all that it calls make is longer than what came in: it says more and counts as full. Else prove '..UptoSaid'. A law counts once. -/
mutual
def uptoBulk {H : Type} : DataW H → Nat
  | .lit (.string bytes) => bytes.length + 1
  | .lit _ => 1
  | .nil => 1
  | .ptr d => uptoBulk d + 1
  | .slice elems spare => uptoBulkAll elems + uptoBulkAll spare + 1
  | .agg parts => uptoBulkAll parts + 1
  | .iface _ d => uptoBulk d + 1
  | .map entries => uptoBulkEntries entries + 1
  | .held _ => 1
def uptoBulkAll {H : Type} : List (DataW H) → Nat
  | [] => 0
  | d :: r => uptoBulk d + uptoBulkAll r
def uptoBulkEntries {H : Type} : List (Lit × DataW H) → Nat
  | [] => 0
  | x :: r => uptoBulkEntry x + uptoBulkEntries r
def uptoBulkEntry {H : Type} : Lit × DataW H → Nat
  | (.string bytes, d) => bytes.length + uptoBulk d + 1
  | (_, d) => uptoBulk d + 1
 end
def uptoSmall : (H : Type) → List (DataW H) → Bool := fun _ ds => decide (uptoBulkAll ds ≤ 1048576)
def OpenSpec.upto (s : _root_.Go.ChangeSpec) : _root_.Go.OpenSpec := { _root_.Go.OpenSpec.ofChange s with cond := some uptoSmall }

/-- 'cortadolaw04.XxSums', WHERE WHAT IT READS IS OF BULK AT MOST 1048576: true; the input reads as it did. -/
def xxSumsUptoRow : OpenClaim := { program := "ytamimgcgimffgaadoor", sum := "83e356a4326d886c8b0d76da86596dd816f8eceb4ae9f1d752f4e2de49d84613", func := "cortado/cortadolaw04.XxSums", spec := "xxSums", named := ["cortado/xx.turns"], apart := false, laid := [("cortado/xx.turns", laid_cortado_xx_turns)], narrowed := true }
def XxSumsUptoSaid : Prop := xxSumsUptoRow.holds Tryd.pinned (OpenSpec.upto xxSumsSpec)

/-- 'cortadolaw04.XxParts', WHERE WHAT IT READS IS OF BULK AT MOST 1048576: true; the input reads as it did. -/
def xxPartsUptoRow : OpenClaim := { program := "ytamimgcgimffgaadoor", sum := "83e356a4326d886c8b0d76da86596dd816f8eceb4ae9f1d752f4e2de49d84613", func := "cortado/cortadolaw04.XxParts", spec := "xxParts", named := ["cortado/xx.turns"], apart := false, laid := [("cortado/xx.turns", laid_cortado_xx_turns)], narrowed := true }
def XxPartsUptoSaid : Prop := xxPartsUptoRow.holds Tryd.pinned (OpenSpec.upto xxPartsSpec)

end Rows
end Go.Proofs.YtamimgcgimffgaaDoor
