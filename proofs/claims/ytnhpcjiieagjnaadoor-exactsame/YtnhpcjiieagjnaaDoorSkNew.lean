/-
  sketch.New by its contract: a sketch of four rows of zeros, in blocks of its own.
-/
import Derived.Test.YtnhpcjiieagjnaaDoorSkSk
import Derived.RegionTactic
namespace Go.Proofs.YtnhpcjiieagjnaaDoor.sk
open Go.RowKit
open nb (Keep Nib ct cell_of frozen_of heap_set heap_set_other heap_old heap_next heap_lt getAt mayAdd addAt)
/-- the pointer to a row, if it was made. -/
def pt (S j i : Nat) : Value := .pointer (if i < j then some ⟨S + 2 + 2 * i, 0, none⟩ else none)
/-- so many rows were made. -/
structure Nw (w : World) (S seed n j : Nat) (W : World) : Prop where
  head : W.heap[S]? = some (.cells #[pt S j 0, pt S j 1, pt S j 2, pt S j 3, .int .u64 (seed : Int)] 74 (0, 0))
  row : ∀ i, i < j → Nib W (S + 2 + 2 * i) (S + 1 + 2 * i) (List.replicate n 0)
  size : W.heap.size = S + 1 + 2 * j
  old : Below S w W
namespace Nw
variable {w W B : World} {S seed n j : Nat}
theorem start (w : World) (seed n : Nat) : Nw w w.heap.size seed n 0 (w.alloc (.cells #[.pointer none, .pointer none, .pointer none, .pointer none, .int .u64 (seed : Int)] 74)) :=
  ⟨heap_next rfl _, fun i hi => absurd hi (by omega), by simp, (Below.refl _ _).alloc (Nat.le_refl _) _⟩
theorem next (h : Nw w S seed n j W) (hj : j < 4) (hB : Below W.heap.size W B) (hn : Nib B (W.heap.size + 1) W.heap.size (List.replicate n 0)) (hs : B.heap.size = W.heap.size + 2) :
    Nw w S seed n (j + 1) (B.setCell ⟨S, j, none⟩ (.pointer (some ⟨W.heap.size + 1, 0, none⟩))) := by
  have hz := h.size
  have hh : B.heap[S]? = _ := (hB.block S (by omega)).trans h.head
  have hk : Keep (fun k => k ≠ S) B (B.setCell ⟨S, j, none⟩ (.pointer (some ⟨W.heap.size + 1, 0, none⟩))) := Keep.setCell _ _ _ (fun h => h rfl)
  refine ⟨?_, fun i hi => ?_, by simp [World.setCell]; omega, (h.old.trans (hB.mono (by omega))).trans (hk.below (fun k hk => by omega) (by omega))⟩
  · rw [heap_set hh, hz, show S + 1 + 2 * j + 1 = S + 2 + 2 * j by omega]
    rcases (show j = 0 ∨ j = 1 ∨ j = 2 ∨ j = 3 by omega) with rfl | rfl | rfl | rfl <;> rfl
  · by_cases e : i = j
    · subst e
      rw [hz, show S + 1 + 2 * i + 1 = S + 2 + 2 * i by omega] at hn
      exact hn.keep hk (by show S + 2 + 2 * i ≠ S; omega) (by show S + 1 + 2 * i ≠ S; omega)
    · exact ((h.row i (by omega)).keep (K := (· < W.heap.size)) (.of_below hB fun _ h => h) (by show S + 2 + 2 * i < _; omega) (by show S + 1 + 2 * i < _; omega)).keep hk (by show S + 2 + 2 * i ≠ S; omega) (by show S + 1 + 2 * i ≠ S; omega)
theorem cj (h : Nw w S seed n j W) (hj : j < 4) : W.cell? ⟨S, j, none⟩ = some (.pointer none) ∧ W.frozen? ⟨S, j, none⟩ = false := by
  refine ⟨?_, frozen_of h.head j⟩
  rw [cell_of h.head]
  rcases (show j = 0 ∨ j = 1 ∨ j = 2 ∨ j = 3 by omega) with rfl | rfl | rfl | rfl <;> rfl
theorem drew (h : Nw w S seed n j W) : Nw w S seed n j W.drew := ⟨h.head, fun i hi => (h.row i hi).keep (K := fun _ => True) (.drew _ _) trivial trivial, h.size, h.old.trans ⟨rfl, rfl, rfl, Nat.le_refl _, fun _ _ => rfl⟩⟩
theorem done (h : Nw w S seed n 4 W) (hp : 0 < n) (hl : n ≤ 4096) (hs : seed < 18446744073709551616) : Sk W S seed n (fun _ => List.replicate n 0) :=
  ⟨h.head, h.row, fun _ _ => by simp, hp, hl, hs⟩
end Nw
/-- the width. -/
def wdN (c : Int) : Nat := wd.pwN (min (max c 1) 4096)
theorem wdN_bd (c : Int) : 0 < wdN c ∧ wdN c ≤ 4096 := by
  have h0 : 0 < wdN c := Nat.two_pow_pos _
  refine ⟨h0, ?_⟩
  unfold wdN wd.pwN
  have : wd.lenN ((min (max (min (max c 1) 4096) 1) 4611686018427387904 - 1).toNat) ≤ 12 := wd.lenN_le _ 12 (by simp; omega)
  exact Nat.pow_le_pow_right (n := 2) (by decide) this
set_option maxHeartbeats 1000000 in
theorem new_any (c : Int) (seed : Nat) (hs : seed < 18446744073709551616) (w : World) : Calls Tryd.prog 19 #[.int .i64 c, .int .u64 (seed : Int)] w fun e B => e = .returned (.pointer (some ⟨w.heap.size, 0, none⟩)) ∧ Sk B w.heap.size seed (wdN c) (fun _ => List.replicate (wdN c) 0) ∧ Below w.heap.size w B := by
  obtain ⟨hp, hl⟩ := wdN_bd c
  obtain ⟨m, hm⟩ : ∃ m : Int, min (max c 1) 4096 = m := ⟨_, rfl⟩
  have P := Lib.hid (wd.power_any m)
  have e : wd.pwN m = wdN c := by rw [← hm]; rfl
  rw [e] at P
  generalize wdN c = n at *
  obtain ⟨S, hS⟩ : ∃ S, w.heap.size = S := ⟨_, rfl⟩
  have N0 := Nw.start w seed n
  have T : Hid (∀ j W, j < 4 → Nw w S seed n j W → Calls Tryd.prog 41 #[.int .i64 (n : Int)] W fun e B => e = .returned (.pointer (some ⟨W.heap.size + 1, 0, none⟩)) ∧ B.cell? ⟨S, j, none⟩ = some (.pointer none) ∧ B.frozen? ⟨S, j, none⟩ = false ∧ Hid (Nw w S seed n (j + 1) (B.setCell ⟨S, j, none⟩ (.pointer (some ⟨W.heap.size + 1, 0, none⟩))))) := fun j W hj hW =>
    (nb.new_any n n (by omega) W).mono fun e B ⟨he, h1, h2, h3⟩ => by
      have hz := hW.size
      exact ⟨he, (h2.cell (p := ⟨S, j, none⟩) (by show S < _; omega)).trans (hW.cj hj).1, (h2.frozen (p := ⟨S, j, none⟩) (by show S < _; omega)).trans (hW.cj hj).2, hW.next hj h2 h1 h3⟩
  have D : Hid (∀ W, Nw w S seed n 4 W → Sk W S seed n (fun _ => List.replicate n 0) ∧ Below S w W) := fun W hW => ⟨hW.done hp hl hs, hW.old⟩
  have F : Hid (∀ j W, j < 4 → Nw w S seed n j W → (W.cell? ⟨S, j, none⟩ = some (.pointer none) ∧ W.frozen? ⟨S, j, none⟩ = false)) := fun j W hj hW => hW.cj hj
  have N0 := Lib.hid N0
  rw [hS] at N0 ⊢
  have HS := Lib.hid hS
  clear e
  go_enter Tryd.func19, Tryd.ntmps19
  go_wp2_with (go_at_call 40; refine (P.out _).mono ?_; rintro e w1 ⟨rfl, rfl⟩)
  go_loopw [15] (fun i wr => ∃ j : Nat, j ≤ 4 ∧ i = .int .i64 j ∧ Hid (Nw w S seed n j wr)) (fun i _ => 4 - (intOf i).toNat)
  case atStart => exact ⟨0, by omega, rfl, N0⟩
  case round =>
    obtain ⟨j, hj, rfl, hH⟩ := hrel
    by_cases hlt : j < 4
    · have T1 := Lib.hid (T.out j wr.drew hlt hH.out.drew)
      obtain ⟨z, hz⟩ : ∃ z, wr.drew.heap.size + 1 = z := ⟨_, rfl⟩
      rw [hz] at T1
      have h1 : (0 : Int) ≤ (j : Int) := by omega
      have h2 : (j : Int) < 4 := by omega
      clear T F
      go_wp2_with fail
      go_region_with (first | (go_at_call 41; refine T1.out.mono ?_; rintro e w2 ⟨rfl, d1, f1, q2⟩))
      all_goals (
        go_wp2
        go_roundw
        case rel => exact ⟨j + 1, by omega, by simp, q2⟩
        case measure => simp [intOf]; omega)
    · obtain rfl : j = 4 := by omega
      go_wp2
      go_ret
      exact ⟨rfl, D.out _ hH.out⟩
end Go.Proofs.YtnhpcjiieagjnaaDoor.sk
