/-
  What both laws ask behind all ('awake'), by its contract.
-/
import Derived.Test.YtfhcgildokdppaaTpTj
import Derived.Test.YtfhcgildokdppaaTpRs
import Derived.Test.YtfhcgildokdppaaTpPu
namespace Go.Proofs.Ytfhcgildokdppaa.tp
open Go.RowKit
theorem la_lit' {α : Type} {enc : α → Value} (w : World) (t : TypeId) (c : Array Value) (zs : List α) (h : c = (zs.map enc).toArray) : La enc (w.alloc (.cells c t)) (some ⟨w.heap.size, 0, none⟩) zs := fun _ => ⟨_, _, rfl, fun i hi => by
  rw [cell_of (heap_next rfl _), h]
  simp [hi]⟩
end Go.Proofs.Ytfhcgildokdppaa.tp
