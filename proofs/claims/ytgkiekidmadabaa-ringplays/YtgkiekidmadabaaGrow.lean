/-
  (*Ring[int]).grow by its contract: more slots, the same things.
-/
import Derived.Test.YtgkiekidmadabaaLaid
namespace Go.Proofs.Ytgkiekidmadabaa
open Go.RowKit Go.Shelf
set_option maxHeartbeats 400000 in
theorem grow_any {w : World} {r s n f : Nat} {a : Option Addr} {xs : List Int} {room : Nat} (h : RingI w r s n f a xs room) (hx : xs.length = n) (hn : n < room) :
    Calls Try.prog 29 #[.pointer (some ⟨r, 0, none⟩)] w fun e B => e = .returned (.tuple #[]) ∧ ∃ g n', n < n' ∧ RingI B r g n' 0 (some ⟨g, 0, none⟩) xs room ∧ w.heap.size ≤ g ∧ Keep (fun k => ¬ k = r) w B := by
  obtain ⟨m, hm, hm1, hm2⟩ : ∃ m : Nat, Hid ((if (room : Int) < IntKind.i64.wrap (IntKind.i64.wrap (2 * (n : Int)) + 1) then (room : Int) else IntKind.i64.wrap (IntKind.i64.wrap (2 * (n : Int)) + 1)) = (m : Int)) ∧ n < m ∧ m ≤ room := by
    have hl := h.lid
    have e1 : IntKind.i64.wrap (2 * (n : Int)) = 2 * (n : Int) := by rw [IntKind.wrap_i64]; omega
    have e2 : IntKind.i64.wrap (2 * (n : Int) + 1) = 2 * (n : Int) + 1 := by rw [IntKind.wrap_i64]; omega
    rw [e1, e2]
    by_cases hc : (room : Int) < 2 * (n : Int) + 1
    · exact ⟨room, by unfold Hid; rw [if_pos hc], by omega, by omega⟩
    · exact ⟨2 * n + 1, by unfold Hid; rw [if_neg hc]; simp, by omega, by omega⟩
  have c0 := h.c0
  have c3 := h.c3
  have hr := heap_lt h.head
  have hl := h.lid
  have K0 : Hid (w.drew.cell? ⟨r, 0, none⟩ = some (.slice a n n) ∧ w.drew.cell? ⟨r, 3, none⟩ = some (.int .i64 (room : Int)) ∧ w.drew.frozen? ⟨r, 0, none⟩ = false) := ⟨c0, c3, h.fr 0⟩
  have T : Hid (Calls Try.prog 38 #[.pointer (some ⟨r, 0, none⟩), .int .i64 (m : Int)] w.drew fun e B => ∃ g : Nat, e = .returned (.slice (some ⟨g, 0, none⟩) m m) ∧ (B.cell? ⟨r, 0, none⟩ = some (.slice a n n) ∧ B.cell? ⟨r, 3, none⟩ = some (.int .i64 (room : Int)) ∧ B.frozen? ⟨r, 0, none⟩ = false) ∧
      Hid (w.heap.size ≤ g ∧ Below w.heap.size w B ∧ ∃ arr : Array Value, B.heap[g]? = some (.cells arr 3 (0, 0)) ∧ arr.size = m ∧ (∀ i (hi : i < xs.length), arr[i]? = some (.int .i64 xs[i])))) :=
    (laid_some (w := w.drew) (h.keep (K := fun _ => True) (.drew _ _) fun _ _ => trivial) m (by omega) (by omega)).mono fun e B ⟨g, arr, he, hg, ha, hs, hi, hb⟩ =>
      ⟨g, he, ⟨(hb.cell (p := ⟨r, 0, none⟩) hr).trans c0, (hb.cell (p := ⟨r, 3, none⟩) hr).trans c3, (hb.frozen (p := ⟨r, 0, none⟩) hr).trans (h.fr 0)⟩, hg, (Below.refl _ w).drew.trans hb, arr, ha, hs, hi⟩
  have HH := Lib.hid h.head
  have HR := Lib.hid hr
  have HX := Lib.hid hx
  have hn1 : n ≤ 65536 := by omega
  clear h hr hx K0
  go_enter Try.func29, Try.ntmps29
  go_wp2_with fail
  go_region_with (go_at_call 38; rw [hm.out]; refine T.out.mono ?_; rintro e w2 ⟨g, rfl, ⟨e0, e3, ef⟩, ho⟩)
  all_goals (
    obtain ⟨hg, hb, arr, ha, hs, hi⟩ := ho.out
    have h2 := (hb.block r HR.out).trans HH.out
    have h3 := heap_set h2 0 (.slice (some ⟨g, 0, none⟩) m m)
    have d1 : (w2.setCell ⟨r, 0, none⟩ (.slice (some ⟨g, 0, none⟩) m m)).cell? ⟨r, 1, none⟩ = some (.int .i64 (f : Int)) := by rw [cell_of h3 1]; rfl
    have d2 := frozen_of h3 1
    have Z : Hid (w.heap.size ≤ g ∧ Keep (fun k => ¬ k = r) w w2 ∧ w2.heap[g]? = some (.cells arr 3 (0, 0)) ∧ arr.size = m ∧ (∀ i (hi : i < xs.length), arr[i]? = some (.int .i64 xs[i])) ∧ (w2.setCell ⟨r, 0, none⟩ (.slice (some ⟨g, 0, none⟩) m m)).heap[r]? = some (.cells #[.slice (some ⟨g, 0, none⟩) m m, .int .i64 (f : Int), .int .i64 (xs.length : Int), .int .i64 (room : Int)] 62 (0, 0))) :=
      ⟨hg, ⟨hb.os, hb.tape, hb.output, hb.size, fun k hk _ => hb.block k hk⟩, ha, hs, hi, h3⟩
    clear h2 h3 hg hb ha hs hi ho
    go_wp2
    go_end0
    obtain ⟨hg, hb, ha, hs, hi, h3⟩ := Z.out
    have hr := HR.out
    have hx := HX.out
    refine ⟨rfl, g, m, hm1, ⟨heap_set h3 1 (.int .i64 0), by omega, hm2, hl, fun _ => rfl, fun _ => ⟨by omega, rfl, by omega, arr, heap_set_other (heap_set_other ha (by omega) _ _) (by omega) _ _, hs, fun i hi' => ?_⟩⟩, hg, (hb.trans (Keep.setCell _ _ _ (fun h => h rfl))).trans (Keep.setCell _ _ _ (fun h => h rfl))⟩
    rw [Nat.zero_add, Nat.mod_eq_of_lt (by omega)]
    exact hi i hi')
end Go.Proofs.Ytgkiekidmadabaa
