/-
  The document's sketch (cortadoref11): Count and Full by their contracts.
-/
import Derived.Test.YtljfidbplecggaaDoorRa
import Derived.Test.YtljfidbplecggaaDoorFull
namespace Go.Proofs.YtljfidbplecggaaDoor
open Go.RowKit
open nb (Keep Nib ct cell_of frozen_of heap_set heap_set_other heap_old heap_next heap_lt getAt mayAdd addAt Q e64 info_parts step_ex app_step told)
/-- the box of an argument. -/
theorem arg_box (w : World) (N : Nat) (hN : w.heap.size = N) (x y z : Value) : (w.alloc (.cells #[x, y, z] 29)).heap[N]? = some (.cells #[x, y, z] 29 (0, 0)) := heap_next hN.symm _
set_option maxHeartbeats 4000000 in
theorem refcount_any {w : World} {K : Nat → Prop} {v0 : Value} {f : Nat → List Nat} (n seed x : Nat) (hx : x < 18446744073709551616) (h : Rr K w v0 4 f) (hn : ∀ i, i < 4 → (f i).length = n) (hp : 0 < n) (hl : n ≤ 4096) :
    Calls Tryd.prog 17 #[sv v0 n seed, .int .u64 (x : Int)] w fun e B => e = .returned (.int .i64 (cntN seed n x f : Int)) ∧ Below w.heap.size w B := by
  obtain ⟨N, hN⟩ : ∃ N, w.heap.size = N := ⟨_, rfl⟩
  obtain ⟨b, o, cap, vs, rfl, hc, hb, hi⟩ := h
  obtain ⟨W1, hW1⟩ : ∃ W1, w.alloc (.cells #[.slice (some ⟨b, o, none⟩) 4 cap, .int .i64 (n : Int), .int .u64 (seed : Int)] 29) = W1 := ⟨_, rfl⟩
  have harg : W1.heap[N]? = some (.cells #[.slice (some ⟨b, o, none⟩) 4 cap, .int .i64 (n : Int), .int .u64 (seed : Int)] 29 (0, 0)) := by rw [← hW1]; exact arg_box w N hN _ _ _
  have hb1 : Below N w W1 := by rw [← hW1]; exact (Below.refl _ _).alloc (by omega) _
  have hs1 : W1.heap.size = N + 1 := by rw [← hW1]; simp [hN]
  have S0 : Hid (Below (N + 1) W1 W1) := Below.refl _ _
  have E : Hid (∀ W, Below (N + 1) W1 W → Below N w W) := fun W hW => hb1.trans (hW.mono (by omega))
  have A : Hid (∀ k W, k ≤ 4 → Below (N + 1) W1 W → W.cell? ⟨N, 0, none⟩ = some (.slice (some ⟨b, o, none⟩) 4 cap) ∧ (k < 4 → ∃ b2 o2 c2, (W.cell? ⟨N, 0, none⟩ = some (.slice (some ⟨b, o, none⟩) 4 cap) ∧ W.cell? ⟨N, 1, none⟩ = some (.int .i64 (n : Int)) ∧ W.cell? ⟨N, 2, none⟩ = some (.int .u64 (seed : Int)) ∧ W.cell? ⟨b, o + k, none⟩ = some (.slice (some ⟨b2, o2, none⟩) n c2) ∧ W.cell? ⟨b2, o2 + plN seed n x k, none⟩ = some (.int .i64 (ct (f k) (plN seed n x k) : Int))) ∧
      Hid (Calls Tryd.prog 19 #[sv (.slice (some ⟨b, o, none⟩) 4 cap) n seed, .int .u64 (x : Int), .int .i64 (k : Int)] W.drew fun e B => e = .returned (.int .i64 (plN seed n x k : Int)) ∧ (B.cell? ⟨N, 0, none⟩ = some (.slice (some ⟨b, o, none⟩) 4 cap) ∧ B.cell? ⟨N, 1, none⟩ = some (.int .i64 (n : Int)) ∧ B.cell? ⟨N, 2, none⟩ = some (.int .u64 (seed : Int)) ∧ B.cell? ⟨b, o + k, none⟩ = some (.slice (some ⟨b2, o2, none⟩) n c2) ∧ B.cell? ⟨b2, o2 + plN seed n x k, none⟩ = some (.int .i64 (ct (f k) (plN seed n x k) : Int))) ∧ Hid (Below (N + 1) W1 B)))) := fun k W hk hW => by
    have all : ∀ B, Below (N + 1) W1 B → B.heap[N]? = some (.cells #[.slice (some ⟨b, o, none⟩) 4 cap, .int .i64 (n : Int), .int .u64 (seed : Int)] 29 (0, 0)) := fun B hB => (hB.block N (by omega)).trans harg
    refine ⟨by rw [cell_of (all W hW)]; rfl, fun hk4 => ?_⟩
    obtain ⟨h1, h2, h3⟩ := hi k hk4
    obtain ⟨b2, o2, c2, hv, hcell⟩ := h2.at_ (plN seed n x k) (by rw [hn k hk4]; exact plN_lt _ _ _ _ hp)
    rw [hn k hk4] at hv
    have cells : ∀ B, Below (N + 1) W1 B → (B.cell? ⟨N, 0, none⟩ = some (.slice (some ⟨b, o, none⟩) 4 cap) ∧ B.cell? ⟨N, 1, none⟩ = some (.int .i64 (n : Int)) ∧ B.cell? ⟨N, 2, none⟩ = some (.int .u64 (seed : Int)) ∧ B.cell? ⟨b, o + k, none⟩ = some (.slice (some ⟨b2, o2, none⟩) n c2) ∧ B.cell? ⟨b2, o2 + plN seed n x k, none⟩ = some (.int .i64 (ct (f k) (plN seed n x k) : Int))) := fun B hB => by
      have hB0 := hb1.trans (hB.mono (by omega))
      exact ⟨by rw [cell_of (all B hB)]; rfl, by rw [cell_of (all B hB)]; rfl, by rw [cell_of (all B hB)]; rfl, ((hB0.cell (p := ⟨b, o + k, none⟩) (hN ▸ World.block_lt_of_cell? w ⟨b, o + k, none⟩ h1)).trans h1).trans (by rw [hv]), (hB0.cell (p := ⟨b2, o2 + plN seed n x k, none⟩) (hN ▸ World.block_lt_of_cell? w ⟨b2, o2 + plN seed n x k, none⟩ hcell)).trans hcell⟩
    refine ⟨b2, o2, c2, cells W hW, (refplace_in _ 4 cap n seed x k hp hl hx hk4 _).mono fun e B ⟨he, hb2⟩ => ?_⟩
    have hz := hW.size
    have hB : Below (N + 1) W1 B := hW.trans (Below.trans (show Below (N + 1) W W.drew from ⟨rfl, rfl, rfl, Nat.le_refl _, fun _ _ => rfl⟩) (hb2.mono (by show N + 1 ≤ W.heap.size; omega)))
    exact ⟨he, cells B hB, hB⟩
  have L := cntTo_le f (plN seed n x)
  have PL : Hid (∀ k, plN seed n x k < n) := fun k => plN_lt _ _ _ _ hp
  have X : Hid (∀ j, ((min (cntTo f (plN seed n x) j : Int) (ct (f j) (plN seed n x j) : Int)) = (cntTo f (plN seed n x) (j + 1) : Int))) := fun j => by show _ = ((min _ _ : Nat) : Int); omega
  have C0 : Hid (cntTo f (plN seed n x) 0 = 15) := rfl
  unfold cntN
  generalize cntTo f (plN seed n x) = C at *
  clear hi hn hb harg hb1 hs1
  go_enter Tryd.func17, Tryd.ntmps17
  go_wp2_with fail
  clear hW1
  go_loopw [5, 6] (fun t i wr => ∃ j : Nat, j ≤ 4 ∧ i = .int .i64 j ∧ t = .int .i64 (C j : Int) ∧ Hid (Below (N + 1) W1 wr)) (fun _ i _ => 4 - (intOf i).toNat)
  case atStart => exact ⟨0, by omega, rfl, by rw [C0.out]; rfl, S0⟩
  case round =>
    obtain ⟨j, hj, rfl, rfl, hH⟩ := hrel
    obtain ⟨c0, A0⟩ := A.out j wr hj hH.out
    by_cases hlt : j < 4
    · obtain ⟨b2, o2, c2, S1, A1⟩ := A0 hlt
      have h1 : (0 : Int) ≤ (j : Int) := by omega
      have h2 : (j : Int) < 4 := by omega
      have hmin := X.out j
      have hpl := PL.out j
      have h3 : (0 : Int) ≤ (plN seed n x j : Int) := by omega
      have h4 : (plN seed n x j : Int) < (n : Int) := by omega
      have K0 := Lib.hid S1
      clear A S0 A0 X L C0 S1 E PL
      generalize ct (f j) (plN seed n x j) = y at *
      generalize plN seed n x j = p at *
      generalize hc0 : C j = cj at *
      generalize hc1 : C (j + 1) = ck at *
      have HC := Lib.hid hc1
      clear hc0 hc1
      go_wp2_with fail
      go_region_held3 (fun W => W.cell? ⟨N, 0, none⟩ = some (.slice (some ⟨b, o, none⟩) 4 cap) ∧ W.cell? ⟨N, 1, none⟩ = some (.int .i64 (n : Int)) ∧ W.cell? ⟨N, 2, none⟩ = some (.int .u64 (seed : Int)) ∧ W.cell? ⟨b, o + j, none⟩ = some (.slice (some ⟨b2, o2, none⟩) n c2) ∧ W.cell? ⟨b2, o2 + p, none⟩ = some (.int .i64 (y : Int))) (first | exact K0.out | assumption) (first
        | (go_at_call 19; refine A1.out.mono ?_; rintro e w2 ⟨rfl, S2, B2⟩))
      all_goals (
        go_wp2
        go_roundw
        case rel => exact ⟨j + 1, by omega, by simp, by rw [HC.out], B2⟩
        case measure => simp [intOf]; omega)
    · obtain rfl : j = 4 := by omega
      clear A0 A
      go_wp2
      go_ret
      exact ⟨rfl, by rw [hN]; exact E.out _ hH.out⟩
theorem told_more (cs : List Nat) (k : Nat) : (told cs (k + 1)).length = (told cs k).length + (if ct cs k = 0 then 0 else 1) := by
  by_cases h : ct cs k = 0
  · rw [nb.told_skip h, if_pos h]; rfl
  · rw [nb.told_next h, if_neg h]; simp
set_option maxHeartbeats 4000000 in
theorem reffull_any {w : World} {K : Nat → Prop} {v0 : Value} {f : Nat → List Nat} (n seed : Nat) (h : Rr K w v0 4 f) (hn : ∀ i, i < 4 → (f i).length = n) (hl : n ≤ 4096) :
    Calls Tryd.prog 15 #[sv v0 n seed] w fun e B => e = .returned (.int .i64 (fullTo f 4 : Int)) ∧ Below w.heap.size w B := by
  obtain ⟨N, hN⟩ : ∃ N, w.heap.size = N := ⟨_, rfl⟩
  obtain ⟨b, o, cap, vs, rfl, hc, hb, hi⟩ := h
  obtain ⟨W1, hW1⟩ : ∃ W1, w.alloc (.cells #[.slice (some ⟨b, o, none⟩) 4 cap, .int .i64 (n : Int), .int .u64 (seed : Int)] 29) = W1 := ⟨_, rfl⟩
  have harg : W1.heap[N]? = some (.cells #[.slice (some ⟨b, o, none⟩) 4 cap, .int .i64 (n : Int), .int .u64 (seed : Int)] 29 (0, 0)) := by rw [← hW1]; exact arg_box w N hN _ _ _
  have hb1 : Below N w W1 := by rw [← hW1]; exact (Below.refl _ _).alloc (by omega) _
  have E := Lib.hid hb1
  have c0 : W1.cell? ⟨N, 0, none⟩ = some (.slice (some ⟨b, o, none⟩) 4 cap) := by rw [cell_of harg]; rfl
  have A : Hid (∀ j, j < 4 → ∃ a c2, W1.cell? ⟨b, o + j, none⟩ = some (.slice a n c2) ∧ (∀ k, k < n → ∃ b2 o2, a = some ⟨b2, o2, none⟩ ∧ W1.cell? ⟨b2, o2 + k, none⟩ = some (.int .i64 (ct (f j) k : Int)))) := fun j hj => by
    obtain ⟨h1, h2, h3⟩ := hi j hj
    obtain ⟨a, c2, hv, _⟩ := h2.slice
    rw [hn j hj] at hv
    refine ⟨a, c2, ((hb1.cell (p := ⟨b, o + j, none⟩) (hN ▸ World.block_lt_of_cell? w ⟨b, o + j, none⟩ h1)).trans h1).trans (by rw [hv]), fun k hk => ?_⟩
    obtain ⟨b2, o2, c3, hv2, hcell⟩ := h2.at_ k (by rw [hn j hj]; exact hk)
    rw [hv] at hv2
    injection hv2 with hv2
    exact ⟨b2, o2, hv2, (hb1.cell (p := ⟨b2, o2 + k, none⟩) (hN ▸ World.block_lt_of_cell? w ⟨b2, o2 + k, none⟩ hcell)).trans hcell⟩
  have F : Hid (∀ j, j < 4 → fullTo f (j + 1) = fullTo f j + (told (f j) n).length) := fun j hj => by rw [← hn j hj]; rfl
  have L : Hid (∀ j k, j < 4 → k < n → fullTo f j + (told (f j) k).length ≤ 65536 ∧ (told (f j) (k + 1)).length = (told (f j) k).length + (if ct (f j) k = 0 then 0 else 1)) := fun j k hj hk => by
    refine ⟨?_, told_more _ _⟩
    have hs : ∀ i, i < 4 → fullTo f (i + 1) ≤ fullTo f i + 4096 := fun i hi => by
      have := told_le (f i) (f i).length
      have h1 := hn i hi
      show _ + _ ≤ _
      omega
    have h0 : fullTo f 0 = 0 := rfl
    have a0 : fullTo f 1 ≤ _ := hs 0 (by decide)
    have a1 : fullTo f 2 ≤ _ := hs 1 (by decide)
    have a2 : fullTo f 3 ≤ _ := hs 2 (by decide)
    have := told_le (f j) k
    rcases (show j = 0 ∨ j = 1 ∨ j = 2 ∨ j = 3 by omega) with rfl | rfl | rfl | rfl <;> omega
  clear hi hn hb harg hb1
  have G0 : Hid (fullTo f 0 = 0) := rfl
  generalize fullTo f = G at *
  go_enter Tryd.func15, Tryd.ntmps15
  go_wp2_with fail
  clear hW1
  go_loopw [3, 4] (fun t i wr => ∃ j : Nat, j ≤ 4 ∧ i = .int .i64 j ∧ t = .int .i64 (G j : Int) ∧ wr = W1) (fun _ i _ => 4 - (intOf i).toNat)
  case atStart => exact ⟨0, by omega, rfl, by rw [G0.out]; rfl, rfl⟩
  case round =>
    obtain ⟨j, hj, rfl, rfl, rfl⟩ := hrel
    by_cases hlt : j < 4
    · obtain ⟨a, c2, c1, A1⟩ := A.out j hlt
      have A1 := Lib.hid A1
      have h1 : (0 : Int) ≤ (j : Int) := by omega
      have h2 : (j : Int) < 4 := by omega
      have FJ := Lib.hid (F.out j hlt)
      have LJ : Hid _ := L.out j
      clear A F L
      go_wp2_with fail
      go_loopw [3, 5] (fun t i w2 => ∃ k : Nat, k ≤ n ∧ i = .int .i64 k ∧ t = .int .i64 ((G j + (told (f j) k).length : Nat) : Int) ∧ w2 = wr) (fun _ i _ => n - (intOf i).toNat)
      case atStart => exact ⟨0, by omega, rfl, rfl, rfl⟩
      case round =>
        obtain ⟨k, hk, rfl, rfl, rfl⟩ := hrel
        by_cases hkn : k < n
        · obtain ⟨b2, o2, rfl, cc⟩ := A1.out k hkn
          obtain ⟨l1, l2⟩ := LJ.out k hlt hkn
          have g1 : (0 : Int) ≤ (k : Int) := by omega
          have g2 : (k : Int) < (n : Int) := by omega
          clear A1 LJ FJ G0 E
          by_cases hz : ct (f j) k = 0
          · rw [hz] at cc
            rw [if_pos hz] at l2
            have L2 := Lib.hid l2
            clear l2 hz
            generalize hT : G j + (told (f j) k).length = T at *
            have HT := Lib.hid hT
            clear hT
            go_wp2
            go_roundw
            case rel => exact ⟨k + 1, by omega, by simp, by rw [L2.out, ← HT.out]; rfl, trivial⟩
            case measure => simp [intOf]; omega
          · have hz' : (0 : Int) < (ct (f j) k : Int) := by omega
            rw [if_neg hz] at l2
            have L2 := Lib.hid l2
            clear l2 hz
            generalize ct (f j) k = y at *
            generalize hT : G j + (told (f j) k).length = T at *
            have HT := Lib.hid hT
            clear hT
            go_wp2
            go_roundw
            case rel => exact ⟨k + 1, by omega, by simp, by rw [L2.out, ← Nat.add_assoc, HT.out]; rfl, trivial⟩
            case measure => simp [intOf]; omega
        · obtain rfl : k = n := by omega
          clear A1 LJ G0 E
          rw [← FJ.out]
          go_wp2
          go_roundw
          case rel => exact ⟨j + 1, by omega, by simp, rfl, trivial⟩
          case measure => simp [intOf]; omega
    · obtain rfl : j = 4 := by omega
      go_wp2
      go_ret
      exact ⟨rfl, by rw [hN]; exact E.out⟩
end Go.Proofs.YtljfidbplecggaaDoor
