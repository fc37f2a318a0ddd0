/-
  No cell of these rows narrows 'for every input' (looked for: loops, veiled, ifaces, maps, wideKeys, modest, calm, conditions, laid).
  DERIVED. THE GIVEN ROWS OF THIS SEAT. 3 by the template 'for every input the law returns true; each argument reads behind the call as it read before'; 0 by the template 'total and deterministic' (their statements: YtjigobalghckdaaTotals.lean).
  GIVEN WITH THE SEED: the statements are not yours to turn. If you find one false, say at which input.
  Laid BY PROGRAM, IN A SANDBOX (cutbox-rows.mjs): the forced cells as the released guide's own fill.sh prints them over the translation e859bd72d16d1d02… (all of the seat's roots in one cut). By AI agents, Wed Nov 11 2026. No macro, syntax, notation, axiom, sorry.
-/
import Derived.Test.YtjigobalghckdaaChecked
import GoSem.Claim
import GoSem.ClaimJoined
import GoSem.ClaimMapViews
import Derived.JoinedTies
import Derived.KernelRfl
namespace Go.Proofs.Ytjigobalghckdaa
/- THE CELL 'sum', in the pinned program and in every row, IS THE sha256 OF THE DUMP (.gsa) THAT YtjigobalghckdaaProg.lean LOADS. Nothing in Lean hashes anything: it is a label: what it is worth is what the hold of that sum in a sandbox is worth. -/
noncomputable def Try.pinned : Pinned := { name := "ytjigobalghckdaa", sum := "e859bd72d16d1d02ba15de8a8612d4b0d9f85773dddf26e848f4b1beee53d085", checked := Try.checked }
namespace Rows
def none {H : Type} : Left H := { results := [], args := [] }

/-- 'cortadolaw05.FnvSums': WHATEVER THE INPUT: true; the input reads as it did. -/
def fnvSumsSpec : ChangeSpec := { name := "fnvSums", fn := fun _ => fun
  | [d1, d2, d3] => { results := [.lit (.bool true)], args := [d1, d2, d3] }
  | _ => none }
def fnvSumsRow : OpenClaim := { program := "ytjigobalghckdaa", sum := "e859bd72d16d1d02ba15de8a8612d4b0d9f85773dddf26e848f4b1beee53d085", func := "cortado/cortadolaw05.FnvSums", spec := "fnvSums", apart := false }
def FnvSumsSaid : Prop := fnvSumsRow.holds Try.pinned (OpenSpec.ofChange fnvSumsSpec)

/-- ITS FALSE NEIGHBOUR: 'it returns false'. Refute it at one input. -/
def fnvSumsWrong : ChangeSpec := { name := "fnvSums", fn := fun _ => fun
  | [d1, d2, d3] => { results := [.lit (.bool false)], args := [d1, d2, d3] }
  | _ => none }
def FnvSumsWrongFalsely : Prop := fnvSumsRow.holds Try.pinned (OpenSpec.ofChange fnvSumsWrong)

/-- 'cortadolaw05.FnvBack': WHATEVER THE INPUT: true; the input reads as it did. -/
def fnvBackSpec : ChangeSpec := { name := "fnvBack", fn := fun _ => fun
  | [d1, d2, d3] => { results := [.lit (.bool true)], args := [d1, d2, d3] }
  | _ => none }
def fnvBackRow : OpenClaim := { program := "ytjigobalghckdaa", sum := "e859bd72d16d1d02ba15de8a8612d4b0d9f85773dddf26e848f4b1beee53d085", func := "cortado/cortadolaw05.FnvBack", spec := "fnvBack", apart := false }
def FnvBackSaid : Prop := fnvBackRow.holds Try.pinned (OpenSpec.ofChange fnvBackSpec)

/-- ITS FALSE NEIGHBOUR: 'it returns false'. Refute it at one input. -/
def fnvBackWrong : ChangeSpec := { name := "fnvBack", fn := fun _ => fun
  | [d1, d2, d3] => { results := [.lit (.bool false)], args := [d1, d2, d3] }
  | _ => none }
def FnvBackWrongFalsely : Prop := fnvBackRow.holds Try.pinned (OpenSpec.ofChange fnvBackWrong)

/-- 'cortadolaw05.FnvOne': WHATEVER THE INPUT: true; the input reads as it did. -/
def fnvOneSpec : ChangeSpec := { name := "fnvOne", fn := fun _ => fun
  | [d1, d2, d3] => { results := [.lit (.bool true)], args := [d1, d2, d3] }
  | _ => none }
def fnvOneRow : OpenClaim := { program := "ytjigobalghckdaa", sum := "e859bd72d16d1d02ba15de8a8612d4b0d9f85773dddf26e848f4b1beee53d085", func := "cortado/cortadolaw05.FnvOne", spec := "fnvOne", apart := false }
def FnvOneSaid : Prop := fnvOneRow.holds Try.pinned (OpenSpec.ofChange fnvOneSpec)

/-- ITS FALSE NEIGHBOUR: 'it returns false'. Refute it at one input. -/
def fnvOneWrong : ChangeSpec := { name := "fnvOne", fn := fun _ => fun
  | [d1, d2, d3] => { results := [.lit (.bool false)], args := [d1, d2, d3] }
  | _ => none }
def FnvOneWrongFalsely : Prop := fnvOneRow.holds Try.pinned (OpenSpec.ofChange fnvOneWrong)

/- THE SECOND FORM. 'bulk': how many values and letters a reading holds, each counted each time it is reached (what is shared counts as often as it is met; a slice's spare places count too). A statement '..UptoSaid' is the law's where the arguments, and the package variables that the reading takes, are together of bulk at most 1048576: NARROWER than '..Said'. Prove '..Said' where nothing that the law and all that it calls make is longer than what came in: it says more and counts as full. Else prove '..UptoSaid'. A law counts once. -/
mutual
def uptoBulk {H : Type} : DataW H → Nat
  | .lit (.string bytes) => bytes.length + 1
  | .lit _ => 1
  | .nil => 1
  | .ptr d => uptoBulk d + 1
  | .slice elems spare => uptoBulkAll elems + uptoBulkAll spare + 1
  | .agg parts => uptoBulkAll parts + 1
  | .iface _ d => uptoBulk d + 1
  | .map entries => uptoBulkEntries entries + 1
  | .held _ => 1
def uptoBulkAll {H : Type} : List (DataW H) → Nat
  | [] => 0
  | d :: r => uptoBulk d + uptoBulkAll r
def uptoBulkEntries {H : Type} : List (Lit × DataW H) → Nat
  | [] => 0
  | x :: r => uptoBulkEntry x + uptoBulkEntries r
def uptoBulkEntry {H : Type} : Lit × DataW H → Nat
  | (.string bytes, d) => bytes.length + uptoBulk d + 1
  | (_, d) => uptoBulk d + 1
 end
def uptoSmall : (H : Type) → List (DataW H) → Bool := fun _ ds => decide (uptoBulkAll ds ≤ 1048576)
def OpenSpec.upto (s : _root_.Go.ChangeSpec) : _root_.Go.OpenSpec := { _root_.Go.OpenSpec.ofChange s with cond := some uptoSmall }

/-- 'cortadolaw05.FnvSums', WHERE WHAT IT READS IS OF BULK AT MOST 1048576: true; the input reads as it did. -/
def fnvSumsUptoRow : OpenClaim := { program := "ytjigobalghckdaa", sum := "e859bd72d16d1d02ba15de8a8612d4b0d9f85773dddf26e848f4b1beee53d085", func := "cortado/cortadolaw05.FnvSums", spec := "fnvSums", apart := false, narrowed := true }
def FnvSumsUptoSaid : Prop := fnvSumsUptoRow.holds Try.pinned (OpenSpec.upto fnvSumsSpec)

/-- 'cortadolaw05.FnvBack', WHERE WHAT IT READS IS OF BULK AT MOST 1048576: true; the input reads as it did. -/
def fnvBackUptoRow : OpenClaim := { program := "ytjigobalghckdaa", sum := "e859bd72d16d1d02ba15de8a8612d4b0d9f85773dddf26e848f4b1beee53d085", func := "cortado/cortadolaw05.FnvBack", spec := "fnvBack", apart := false, narrowed := true }
def FnvBackUptoSaid : Prop := fnvBackUptoRow.holds Try.pinned (OpenSpec.upto fnvBackSpec)

/-- 'cortadolaw05.FnvOne', WHERE WHAT IT READS IS OF BULK AT MOST 1048576: true; the input reads as it did. -/
def fnvOneUptoRow : OpenClaim := { program := "ytjigobalghckdaa", sum := "e859bd72d16d1d02ba15de8a8612d4b0d9f85773dddf26e848f4b1beee53d085", func := "cortado/cortadolaw05.FnvOne", spec := "fnvOne", apart := false, narrowed := true }
def FnvOneUptoSaid : Prop := fnvOneUptoRow.holds Try.pinned (OpenSpec.upto fnvOneSpec)

end Rows
end Go.Proofs.Ytjigobalghckdaa
