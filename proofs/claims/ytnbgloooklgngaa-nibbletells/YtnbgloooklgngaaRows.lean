/-
  No cell of these rows narrows 'for every input' (looked for: loops, veiled, ifaces, maps, wideKeys, modest, calm, conditions, laid).
  DERIVED. THE GIVEN ROWS OF THIS SEAT. 3 by the template 'for every input the law returns true; each argument reads behind the call as it read before'; 0 by the template 'total and deterministic' (their statements: YtnbgloooklgngaaTotals.lean).
  GIVEN WITH THE SEED: the statements are not yours to turn. If you find one false, say at which input.
  Laid BY PROGRAM, IN A SANDBOX (cutbox-rows.mjs): the forced cells as the released guide's own fill.sh prints them over the translation 016cf8109607d2f2… (all of the seat's roots in one cut). By AI agents, Wed Nov 11 2026. No macro, syntax, notation, axiom, sorry.
-/
import Derived.Test.YtnbgloooklgngaaChecked
import GoSem.Claim
import GoSem.ClaimJoined
import GoSem.ClaimMapViews
import Derived.JoinedTies
import Derived.KernelRfl
namespace Go.Proofs.Ytnbgloooklgngaa
/- THE CELL 'sum', in the pinned program and in every row, IS THE sha256 OF THE DUMP (.gsa) THAT YtnbgloooklgngaaProg.lean LOADS. Nothing in Lean hashes anything: it is a label: what it is worth is what the hold of that sum in a sandbox is worth. -/
noncomputable def Try.pinned : Pinned := { name := "ytnbgloooklgngaa", sum := "016cf8109607d2f20e59e7619467574e1e07a684e98771d896d29bde9bfe7b50", checked := Try.checked }
namespace Rows
def none {H : Type} : Left H := { results := [], args := [] }

/-- 'cortadolaw10.NibblePlays': WHATEVER THE INPUT: true; the input reads as it did. -/
def nibblePlaysSpec : ChangeSpec := { name := "nibblePlays", fn := fun _ => fun
  | [d1, d2, d3] => { results := [.lit (.bool true)], args := [d1, d2, d3] }
  | _ => none }
def nibblePlaysRow : OpenClaim := { program := "ytnbgloooklgngaa", sum := "016cf8109607d2f20e59e7619467574e1e07a684e98771d896d29bde9bfe7b50", func := "cortado/cortadolaw10.NibblePlays", spec := "nibblePlays", unfollowed := true, recurses := true, apart := false }
def NibblePlaysSaid : Prop := nibblePlaysRow.holds Try.pinned (OpenSpec.ofChange nibblePlaysSpec)

/-- ITS FALSE NEIGHBOUR: 'it returns false'. Refute it at one input. -/
def nibblePlaysWrong : ChangeSpec := { name := "nibblePlays", fn := fun _ => fun
  | [d1, d2, d3] => { results := [.lit (.bool false)], args := [d1, d2, d3] }
  | _ => none }
def NibblePlaysWrongFalsely : Prop := nibblePlaysRow.holds Try.pinned (OpenSpec.ofChange nibblePlaysWrong)

/-- 'cortadolaw10.NibbleTells': WHATEVER THE INPUT: true; the input reads as it did. -/
def nibbleTellsSpec : ChangeSpec := { name := "nibbleTells", fn := fun _ => fun
  | [d1, d2] => { results := [.lit (.bool true)], args := [d1, d2] }
  | _ => none }
def nibbleTellsRow : OpenClaim := { program := "ytnbgloooklgngaa", sum := "016cf8109607d2f20e59e7619467574e1e07a684e98771d896d29bde9bfe7b50", func := "cortado/cortadolaw10.NibbleTells", spec := "nibbleTells", unfollowed := true, recurses := true, apart := false }
def NibbleTellsSaid : Prop := nibbleTellsRow.holds Try.pinned (OpenSpec.ofChange nibbleTellsSpec)

/-- ITS FALSE NEIGHBOUR: 'it returns false'. Refute it at one input. -/
def nibbleTellsWrong : ChangeSpec := { name := "nibbleTells", fn := fun _ => fun
  | [d1, d2] => { results := [.lit (.bool false)], args := [d1, d2] }
  | _ => none }
def NibbleTellsWrongFalsely : Prop := nibbleTellsRow.holds Try.pinned (OpenSpec.ofChange nibbleTellsWrong)

/-- 'cortadolaw10.NibbleApart': WHATEVER THE INPUT: true; the input reads as it did. -/
def nibbleApartSpec : ChangeSpec := { name := "nibbleApart", fn := fun _ => fun
  | [d1, d2, d3] => { results := [.lit (.bool true)], args := [d1, d2, d3] }
  | _ => none }
def nibbleApartRow : OpenClaim := { program := "ytnbgloooklgngaa", sum := "016cf8109607d2f20e59e7619467574e1e07a684e98771d896d29bde9bfe7b50", func := "cortado/cortadolaw10.NibbleApart", spec := "nibbleApart", unfollowed := true, recurses := true, apart := false }
def NibbleApartSaid : Prop := nibbleApartRow.holds Try.pinned (OpenSpec.ofChange nibbleApartSpec)

/-- ITS FALSE NEIGHBOUR: 'it returns false'. Refute it at one input. -/
def nibbleApartWrong : ChangeSpec := { name := "nibbleApart", fn := fun _ => fun
  | [d1, d2, d3] => { results := [.lit (.bool false)], args := [d1, d2, d3] }
  | _ => none }
def NibbleApartWrongFalsely : Prop := nibbleApartRow.holds Try.pinned (OpenSpec.ofChange nibbleApartWrong)

/- THE SECOND FORM. 'bulk': how many values and letters a reading holds, each counted each time it is reached (what is shared counts as often as it is met; a slice's spare places count too). A statement '..UptoSaid' is the law's where the arguments, and the package variables that the reading takes, are together of bulk at most 1048576: NARROWER than '..Said'. Prove '..Said' where nothing that the law and all that it calls make is longer than what came in: it says more and counts as full. Else prove '..UptoSaid'. A law counts once. -/
mutual
def uptoBulk {H : Type} : DataW H → Nat
  | .lit (.string bytes) => bytes.length + 1
  | .lit _ => 1
  | .nil => 1
  | .ptr d => uptoBulk d + 1
  | .slice elems spare => uptoBulkAll elems + uptoBulkAll spare + 1
  | .agg parts => uptoBulkAll parts + 1
  | .iface _ d => uptoBulk d + 1
  | .map entries => uptoBulkEntries entries + 1
  | .held _ => 1
def uptoBulkAll {H : Type} : List (DataW H) → Nat
  | [] => 0
  | d :: r => uptoBulk d + uptoBulkAll r
def uptoBulkEntries {H : Type} : List (Lit × DataW H) → Nat
  | [] => 0
  | x :: r => uptoBulkEntry x + uptoBulkEntries r
def uptoBulkEntry {H : Type} : Lit × DataW H → Nat
  | (.string bytes, d) => bytes.length + uptoBulk d + 1
  | (_, d) => uptoBulk d + 1
 end
def uptoSmall : (H : Type) → List (DataW H) → Bool := fun _ ds => decide (uptoBulkAll ds ≤ 1048576)
def OpenSpec.upto (s : _root_.Go.ChangeSpec) : _root_.Go.OpenSpec := { _root_.Go.OpenSpec.ofChange s with cond := some uptoSmall }

/-- 'cortadolaw10.NibblePlays', WHERE WHAT IT READS IS OF BULK AT MOST 1048576: true; the input reads as it did. -/
def nibblePlaysUptoRow : OpenClaim := { program := "ytnbgloooklgngaa", sum := "016cf8109607d2f20e59e7619467574e1e07a684e98771d896d29bde9bfe7b50", func := "cortado/cortadolaw10.NibblePlays", spec := "nibblePlays", unfollowed := true, recurses := true, apart := false, narrowed := true }
def NibblePlaysUptoSaid : Prop := nibblePlaysUptoRow.holds Try.pinned (OpenSpec.upto nibblePlaysSpec)

/-- 'cortadolaw10.NibbleTells', WHERE WHAT IT READS IS OF BULK AT MOST 1048576: true; the input reads as it did. -/
def nibbleTellsUptoRow : OpenClaim := { program := "ytnbgloooklgngaa", sum := "016cf8109607d2f20e59e7619467574e1e07a684e98771d896d29bde9bfe7b50", func := "cortado/cortadolaw10.NibbleTells", spec := "nibbleTells", unfollowed := true, recurses := true, apart := false, narrowed := true }
def NibbleTellsUptoSaid : Prop := nibbleTellsUptoRow.holds Try.pinned (OpenSpec.upto nibbleTellsSpec)

/-- 'cortadolaw10.NibbleApart', WHERE WHAT IT READS IS OF BULK AT MOST 1048576: true; the input reads as it did. -/
def nibbleApartUptoRow : OpenClaim := { program := "ytnbgloooklgngaa", sum := "016cf8109607d2f20e59e7619467574e1e07a684e98771d896d29bde9bfe7b50", func := "cortado/cortadolaw10.NibbleApart", spec := "nibbleApart", unfollowed := true, recurses := true, apart := false, narrowed := true }
def NibbleApartUptoSaid : Prop := nibbleApartUptoRow.holds Try.pinned (OpenSpec.upto nibbleApartSpec)

end Rows
end Go.Proofs.Ytnbgloooklgngaa
