/-
  What both laws ask behind all ('awake'), by its contract.
-/
import Derived.Test.YtmjboaflbjnpcaaTj
import Derived.Test.YtmjboaflbjnpcaaRs
import Derived.Test.YtmjboaflbjnpcaaPu
namespace Go.Proofs.Ytmjboaflbjnpcaa
open Go.RowKit
theorem la_lit' {α : Type} {enc : α → Value} (w : World) (t : TypeId) (c : Array Value) (zs : List α) (h : c = (zs.map enc).toArray) : La enc (w.alloc (.cells c t)) (some ⟨w.heap.size, 0, none⟩) zs := fun _ => ⟨_, _, rfl, fun i hi => by
  rw [cell_of (heap_next rfl _), h]
  simp [hi]⟩
set_option maxHeartbeats 2000000 in
theorem awake5 (w : World) : Calls Try.prog 5 #[] w fun e B => e = .returned (.bool true) ∧ Hid (Below w.heap.size w B) := by
  have hb0 : Below w.heap.size w (w.alloc (.cells #[.int .u8 7] 5)) := (Below.refl _ _).alloc (Nat.le_refl _) _
  have T6 : Hid (Calls Try.prog 6 #[.slice (some ⟨w.heap.size, 0, none⟩) 1 1] (w.alloc (.cells #[.int .u8 7] 5)) fun e B => ∃ D c q, e = .returned (.pointer (some ⟨D, 0, none⟩)) ∧ Hid (Nw (w.alloc (.cells #[.int .u8 7] 5)) D c q [7] B)) :=
    new6 (some ⟨w.heap.size, 0, none⟩) [7] 1 (w.alloc (.cells #[.int .u8 7] 5)) (fun h => by cases h) (by decide) (fun b hb => by simp at hb; omega) (la_lit' w 5 _ [7] rfl)
  have T7 : Hid (∀ D c q B, Hid (Nw (w.alloc (.cells #[.int .u8 7] 5)) D c q [7] B) → Calls Try.prog 7 #[.pointer (some ⟨D, 0, none⟩)] B fun e C => e = .returned (.int .i64 7) ∧ Hid (Below w.heap.size w C)) := fun D c q B h => by
    have hs : w.heap.size ≤ (w.alloc (.cells #[.int .u8 7] 5)).heap.size := hb0.size
    have hb : Below w.heap.size w B := hb0.trans (h.out.2.2.2.mono hs)
    exact (int7 h.out.1).mono fun e C ⟨he, g⟩ => ⟨he, hb.trans (g.out.2.below (fun k hk e => by have := h.out.2.1; omega) hb.size)⟩
  have T16 : Hid (∀ W, Hid (Below w.heap.size w W) → Calls Try.prog 16 #[.slice none 0 0, .slice (some ⟨W.heap.size, 0, none⟩) 2 2] (W.alloc (.cells #[.int .i64 5, .int .i64 300] 3)) fun e C => ∃ v c, e = .returned (.slice v 3 c) ∧ Hid (Below w.heap.size w C)) := fun W hW => by
    have hb : Below W.heap.size W (W.alloc (.cells #[.int .i64 5, .int .i64 300] 3)) := (Below.refl _ _).alloc (Nat.le_refl _) _
    have := put16 none 0 [] (some ⟨W.heap.size, 0, none⟩) 2 [5, 300] (W.alloc (.cells #[.int .i64 5, .int .i64 300] 3)) (fun _ => ⟨rfl, rfl⟩) (by decide) (La.nil _ _) (by decide) (la_lit' W 3 _ [5, 300] rfl) (fun x hx => by simp at hx; omega)
    refine this.mono fun e C ⟨v, k, c, he, hk, hC⟩ => ⟨v, c, ?_, ?_⟩
    · rw [he, hk]
      rfl
    · exact hW.out.trans ((hb.trans (hC.out.2.mono hb.size)).mono hW.out.size)
  clear hb0
  go_enter Try.func5, Try.ntmps5
  go_wp2_with fail
  refine T6.out.mono ?_
  rintro e w1 ⟨D, c, q, rfl, N⟩
  go_wp2_with fail
  refine (T7.out D c q w1 N).mono ?_
  rintro e w2 ⟨rfl, B2⟩
  go_wp2_with fail
  refine (T16.out w2 B2).mono ?_
  rintro e w3 ⟨v, c3, rfl, B3⟩
  go_wp2
  go_ret
  exact ⟨rfl, B3⟩
end Go.Proofs.Ytmjboaflbjnpcaa
