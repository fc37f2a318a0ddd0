/-
  The laws' helper awake, by its contract.
-/
import Derived.Test.YthjbkabkoolfdaaDoorTp
namespace Go.Proofs.YthjbkabkoolfdaaDoor
open Go.RowKit
open nb (Keep ct cell_of frozen_of heap_set heap_set_other heap_old heap_next heap_lt addAt mayAdd)
set_option maxHeartbeats 1000000 in
theorem awake_any (w0 w : World) (h : mx.Since w0 w) : Calls Tryd.prog 5 #[] w fun e B => e = .returned (.bool true) ∧ Hid (Below w.heap.size w B) := by
  have hs := since_self h
  have hF := Fine.start 4 0
  have hE : estZ (csN 4 0) 7 (zs0 (csN 4 0)) = 0 := est_zero _ _ _ _
  obtain ⟨e1, e2⟩ := three hF rfl rfl 7 hE
  have T6 : Hid (Calls Tryd.prog 6 #[.int .i64 4, .int .u64 0] w fun e B => ∃ a, e = .returned (.pointer (some ⟨a.T, 0, none⟩)) ∧ Hid (At w a (csN 4 0) (zs0 (csN 4 0)) B)) := new_any 4 0 (by decide) w hs
  have T8 : Hid (∀ (a : Ad) (W : World), At w a (csN 4 0) (zs0 (csN 4 0)) W → Calls Tryd.prog 8 #[.pointer (some ⟨a.T, 0, none⟩), .slice (some ⟨W.heap.size, 0, none⟩) 3 3] (W.alloc (.cells #[.int .u64 7, .int .u64 7, .int .u64 7] 22)) fun e B => e = .returned (.tuple #[]) ∧ Hid (At w a (csN 4 0) (pushZ (csN 4 0) [7, 7, 7] (zs0 (csN 4 0))) B)) := fun a W hW => by
    have hb : (W.alloc (.cells #[.int .u64 7, .int .u64 7, .int .u64 7] 22)).heap[W.heap.size]? = some (.cells #[.int .u64 7, .int .u64 7, .int .u64 7] 22 (0, 0)) := heap_next rfl _
    have hK : Ks (far a) (W.alloc (.cells #[.int .u64 7, .int .u64 7, .int .u64 7] 22)) (some ⟨W.heap.size, 0, none⟩) [7, 7, 7] := fun _ => ⟨W.heap.size, 0, rfl, hW.far_new (Nat.le_refl _), fun i hi => by
      simp at hi
      rw [cell_of hb]
      rcases (show i = 0 ∨ i = 1 ∨ i = 2 by omega) with rfl | rfl | rfl <;> exact ⟨rfl, by simp⟩⟩
    exact (push_any (hW.below ((Below.refl _ _).alloc (Nat.le_refl _) _)) _ 3 [7, 7, 7] hK 0 (Ok.start 4 0) (by simp)).mono fun e B ⟨he, h1, _⟩ => ⟨he, h1⟩
  have T13 : Hid (∀ (a : Ad) (W : World), At w a (csN 4 0) (pushZ (csN 4 0) [7, 7, 7] (zs0 (csN 4 0))) W → Calls Tryd.prog 13 #[.pointer (some ⟨a.T, 0, none⟩), .int .u64 7] W fun e B => e = .returned (.int .i64 3) ∧ Hid (Calls Tryd.prog 10 #[.pointer (some ⟨a.T, 0, none⟩)] B fun e B2 => e = .returned (.int .i64 3) ∧ B2 = B) ∧ Hid (Below w.heap.size w B)) := fun a W hW => by
    have := hW.est_any 7 (by decide)
    rw [e1] at this
    refine this.mono fun e B ⟨he, hb⟩ => ⟨he, ?_, (hW.below hb).old.2⟩
    have := (hW.below hb).get10
    rw [e2] at this
    exact this
  clear h hs hF hE e1 e2
  generalize pushZ (csN 4 0) [7, 7, 7] (zs0 (csN 4 0)) = z1 at *
  generalize zs0 (csN 4 0) = z0 at *
  generalize csN 4 0 = c at *
  go_enter Tryd.func5, Tryd.ntmps5
  go_wp2_with fail
  refine T6.out.mono ?_
  rintro e w1 ⟨a, rfl, h1⟩
  have T8 := Lib.hid (T8.out a w1 h1.out)
  go_wp2_with fail
  refine T8.out.mono ?_
  rintro e w2 ⟨rfl, h2⟩
  have T13 := Lib.hid (T13.out a w2 h2.out)
  go_wp2_with fail
  refine T13.out.mono ?_
  rintro e w3 ⟨rfl, T10, hb⟩
  go_wp2_with (go_at_call 10; refine T10.out.mono ?_; rintro e w4 ⟨rfl, e4⟩; obtain rfl : w3 = w4 := e4.symm)
  go_ret
  exact ⟨rfl, hb⟩
/-- the slice at p reads as the words l. -/
def Keys (w : World) (p : Option Addr) (l : List Nat) : Prop :=
  0 < l.length → ∃ b o, p = some ⟨b, o, none⟩ ∧ ∀ i (h : i < l.length), w.cell? ⟨b, o + i, none⟩ = some (.int .u64 (l[i] : Int)) ∧ l[i] < 18446744073709551616
theorem Keys.at_ {w W : World} {p : Option Addr} {l : List Nat} (h : Keys w p l) (hb : Below w.heap.size w W) (j : Nat) (hj : j < l.length) : ∃ b o x, p = some ⟨b, o, none⟩ ∧ l[j]? = some x ∧ x < 18446744073709551616 ∧ W.cell? ⟨b, o + j, none⟩ = some (.int .u64 (x : Int)) := by
  obtain ⟨b, o, rfl, hi⟩ := h (by omega)
  obtain ⟨h1, h2⟩ := hi j hj
  exact ⟨b, o, l[j], rfl, by simp [hj], h2, (hb.cell (p := ⟨b, o + j, none⟩) (World.block_lt_of_cell? w ⟨b, o + j, none⟩ h1)).trans h1⟩
end Go.Proofs.YthjbkabkoolfdaaDoor
