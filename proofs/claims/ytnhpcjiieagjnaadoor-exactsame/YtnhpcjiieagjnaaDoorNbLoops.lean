/-
  The document's Halve and Bytes (cortadoref10) by contracts; a slice of bytes as a string.
-/
import Derived.Test.YtnhpcjiieagjnaaDoorNbRefs
namespace Go.Proofs.YtnhpcjiieagjnaaDoor.nb
open Go.RowKit
/-- a row of one's own, made so far. -/
def Made (enc : Nat → Value) (e : TypeId) (w : World) (v : Value) (k : Nat) (ys : List Nat) (W : World) : Prop := W.ownsRow w.heap.size e 1 v k (ys.map enc) ∧ Keep (fun k => k < w.heap.size) w W
theorem Made.size {enc : Nat → Value} {e : TypeId} {w W : World} {v : Value} {k : Nat} {ys : List Nat} (h : Made enc e w v k ys W) : w.heap.size ≤ W.heap.size := h.2.size
theorem Made.old {enc : Nat → Value} {e : TypeId} {w W : World} {v : Value} {k : Nat} {ys : List Nat} (h : Made enc e w v k ys W) : Below w.heap.size w W := h.2.below (fun _ h => h) (Nat.le_refl _)
theorem take_half (l : List Nat) (k : Nat) (hk : k < l.length) : (l.take k).map (· / 2) ++ [ct l k / 2] = (l.take (k + 1)).map (· / 2) := by
  rw [List.take_succ_eq_append_getElem hk, List.map_append]
  simp [ct, hk]
end Go.Proofs.YtnhpcjiieagjnaaDoor.nb
