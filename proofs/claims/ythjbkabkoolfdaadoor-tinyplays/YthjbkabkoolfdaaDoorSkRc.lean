/-
  The document's sketch (cortadoref11): Count and Full by their contracts.
-/
import Derived.Test.YthjbkabkoolfdaaDoorSkRa
namespace Go.Proofs.YthjbkabkoolfdaaDoor.sk
open Go.RowKit
open nb (Keep Nib ct cell_of frozen_of heap_set heap_set_other heap_old heap_next heap_lt getAt mayAdd addAt Q e64 info_parts step_ex app_step)
/-- the box of an argument. -/
theorem arg_box (w : World) (N : Nat) (hN : w.heap.size = N) (x y z : Value) : (w.alloc (.cells #[x, y, z] 29)).heap[N]? = some (.cells #[x, y, z] 29 (0, 0)) := heap_next hN.symm _
set_option maxHeartbeats 4000000 in
theorem refcount_any {w : World} {K : Nat → Prop} {v0 : Value} {f : Nat → List Nat} (n seed x : Nat) (hx : x < 18446744073709551616) (h : Rr K w v0 4 f) (hn : ∀ i, i < 4 → (f i).length = n) (hp : 0 < n) (hl : n ≤ 4096) :
    Calls Tryd.prog 25 #[sv v0 n seed, .int .u64 (x : Int)] w fun e B => e = .returned (.int .i64 (cntN seed n x f : Int)) ∧ Below w.heap.size w B := by
  obtain ⟨N, hN⟩ : ∃ N, w.heap.size = N := ⟨_, rfl⟩
  obtain ⟨b, o, cap, vs, rfl, hc, hb, hi⟩ := h
  obtain ⟨W1, hW1⟩ : ∃ W1, w.alloc (.cells #[.slice (some ⟨b, o, none⟩) 4 cap, .int .i64 (n : Int), .int .u64 (seed : Int)] 29) = W1 := ⟨_, rfl⟩
  have harg : W1.heap[N]? = some (.cells #[.slice (some ⟨b, o, none⟩) 4 cap, .int .i64 (n : Int), .int .u64 (seed : Int)] 29 (0, 0)) := by rw [← hW1]; exact arg_box w N hN _ _ _
  have hb1 : Below N w W1 := by rw [← hW1]; exact (Below.refl _ _).alloc (by omega) _
  have hs1 : W1.heap.size = N + 1 := by rw [← hW1]; simp [hN]
  have S0 : Hid (Below (N + 1) W1 W1) := Below.refl _ _
  have E : Hid (∀ W, Below (N + 1) W1 W → Below N w W) := fun W hW => hb1.trans (hW.mono (by omega))
  have A : Hid (∀ k W, k ≤ 4 → Below (N + 1) W1 W → W.cell? ⟨N, 0, none⟩ = some (.slice (some ⟨b, o, none⟩) 4 cap) ∧ (k < 4 → ∃ b2 o2 c2, (W.cell? ⟨N, 0, none⟩ = some (.slice (some ⟨b, o, none⟩) 4 cap) ∧ W.cell? ⟨N, 1, none⟩ = some (.int .i64 (n : Int)) ∧ W.cell? ⟨N, 2, none⟩ = some (.int .u64 (seed : Int)) ∧ W.cell? ⟨b, o + k, none⟩ = some (.slice (some ⟨b2, o2, none⟩) n c2) ∧ W.cell? ⟨b2, o2 + plN seed n x k, none⟩ = some (.int .i64 (ct (f k) (plN seed n x k) : Int))) ∧
      Hid (Calls Tryd.prog 39 #[sv (.slice (some ⟨b, o, none⟩) 4 cap) n seed, .int .u64 (x : Int), .int .i64 (k : Int)] W.drew fun e B => e = .returned (.int .i64 (plN seed n x k : Int)) ∧ (B.cell? ⟨N, 0, none⟩ = some (.slice (some ⟨b, o, none⟩) 4 cap) ∧ B.cell? ⟨N, 1, none⟩ = some (.int .i64 (n : Int)) ∧ B.cell? ⟨N, 2, none⟩ = some (.int .u64 (seed : Int)) ∧ B.cell? ⟨b, o + k, none⟩ = some (.slice (some ⟨b2, o2, none⟩) n c2) ∧ B.cell? ⟨b2, o2 + plN seed n x k, none⟩ = some (.int .i64 (ct (f k) (plN seed n x k) : Int))) ∧ Hid (Below (N + 1) W1 B)))) := fun k W hk hW => by
    have all : ∀ B, Below (N + 1) W1 B → B.heap[N]? = some (.cells #[.slice (some ⟨b, o, none⟩) 4 cap, .int .i64 (n : Int), .int .u64 (seed : Int)] 29 (0, 0)) := fun B hB => (hB.block N (by omega)).trans harg
    refine ⟨by rw [cell_of (all W hW)]; rfl, fun hk4 => ?_⟩
    obtain ⟨h1, h2, h3⟩ := hi k hk4
    obtain ⟨b2, o2, c2, hv, hcell⟩ := h2.at_ (plN seed n x k) (by rw [hn k hk4]; exact plN_lt _ _ _ _ hp)
    rw [hn k hk4] at hv
    have cells : ∀ B, Below (N + 1) W1 B → (B.cell? ⟨N, 0, none⟩ = some (.slice (some ⟨b, o, none⟩) 4 cap) ∧ B.cell? ⟨N, 1, none⟩ = some (.int .i64 (n : Int)) ∧ B.cell? ⟨N, 2, none⟩ = some (.int .u64 (seed : Int)) ∧ B.cell? ⟨b, o + k, none⟩ = some (.slice (some ⟨b2, o2, none⟩) n c2) ∧ B.cell? ⟨b2, o2 + plN seed n x k, none⟩ = some (.int .i64 (ct (f k) (plN seed n x k) : Int))) := fun B hB => by
      have hB0 := hb1.trans (hB.mono (by omega))
      exact ⟨by rw [cell_of (all B hB)]; rfl, by rw [cell_of (all B hB)]; rfl, by rw [cell_of (all B hB)]; rfl, ((hB0.cell (p := ⟨b, o + k, none⟩) (hN ▸ World.block_lt_of_cell? w ⟨b, o + k, none⟩ h1)).trans h1).trans (by rw [hv]), (hB0.cell (p := ⟨b2, o2 + plN seed n x k, none⟩) (hN ▸ World.block_lt_of_cell? w ⟨b2, o2 + plN seed n x k, none⟩ hcell)).trans hcell⟩
    refine ⟨b2, o2, c2, cells W hW, (refplace_in _ 4 cap n seed x k hp hl hx hk4 _).mono fun e B ⟨he, hb2⟩ => ?_⟩
    have hz := hW.size
    have hB : Below (N + 1) W1 B := hW.trans (Below.trans (show Below (N + 1) W W.drew from ⟨rfl, rfl, rfl, Nat.le_refl _, fun _ _ => rfl⟩) (hb2.mono (by show N + 1 ≤ W.heap.size; omega)))
    exact ⟨he, cells B hB, hB⟩
  have L := cntTo_le f (plN seed n x)
  have PL : Hid (∀ k, plN seed n x k < n) := fun k => plN_lt _ _ _ _ hp
  have X : Hid (∀ j, ((min (cntTo f (plN seed n x) j : Int) (ct (f j) (plN seed n x j) : Int)) = (cntTo f (plN seed n x) (j + 1) : Int))) := fun j => by show _ = ((min _ _ : Nat) : Int); omega
  have C0 : Hid (cntTo f (plN seed n x) 0 = 15) := rfl
  unfold cntN
  generalize cntTo f (plN seed n x) = C at *
  clear hi hn hb harg hb1 hs1
  go_enter Tryd.func25, Tryd.ntmps25
  go_wp2_with fail
  clear hW1
  go_loopw [5, 6] (fun t i wr => ∃ j : Nat, j ≤ 4 ∧ i = .int .i64 j ∧ t = .int .i64 (C j : Int) ∧ Hid (Below (N + 1) W1 wr)) (fun _ i _ => 4 - (intOf i).toNat)
  case atStart => exact ⟨0, by omega, rfl, by rw [C0.out]; rfl, S0⟩
  case round =>
    obtain ⟨j, hj, rfl, rfl, hH⟩ := hrel
    obtain ⟨c0, A0⟩ := A.out j wr hj hH.out
    by_cases hlt : j < 4
    · obtain ⟨b2, o2, c2, S1, A1⟩ := A0 hlt
      have h1 : (0 : Int) ≤ (j : Int) := by omega
      have h2 : (j : Int) < 4 := by omega
      have hmin := X.out j
      have hpl := PL.out j
      have h3 : (0 : Int) ≤ (plN seed n x j : Int) := by omega
      have h4 : (plN seed n x j : Int) < (n : Int) := by omega
      have K0 := Lib.hid S1
      clear A S0 A0 X L C0 S1 E PL
      generalize ct (f j) (plN seed n x j) = y at *
      generalize plN seed n x j = p at *
      generalize hc0 : C j = cj at *
      generalize hc1 : C (j + 1) = ck at *
      have HC := Lib.hid hc1
      clear hc0 hc1
      go_wp2_with fail
      go_region_held3 (fun W => W.cell? ⟨N, 0, none⟩ = some (.slice (some ⟨b, o, none⟩) 4 cap) ∧ W.cell? ⟨N, 1, none⟩ = some (.int .i64 (n : Int)) ∧ W.cell? ⟨N, 2, none⟩ = some (.int .u64 (seed : Int)) ∧ W.cell? ⟨b, o + j, none⟩ = some (.slice (some ⟨b2, o2, none⟩) n c2) ∧ W.cell? ⟨b2, o2 + p, none⟩ = some (.int .i64 (y : Int))) (first | exact K0.out | assumption) (first
        | (go_at_call 39; refine A1.out.mono ?_; rintro e w2 ⟨rfl, S2, B2⟩))
      all_goals (
        go_wp2
        go_roundw
        case rel => exact ⟨j + 1, by omega, by simp, by rw [HC.out], B2⟩
        case measure => simp [intOf]; omega)
    · obtain rfl : j = 4 := by omega
      clear A0 A
      go_wp2
      go_ret
      exact ⟨rfl, by rw [hN]; exact E.out _ hH.out⟩
end Go.Proofs.YthjbkabkoolfdaaDoor.sk
