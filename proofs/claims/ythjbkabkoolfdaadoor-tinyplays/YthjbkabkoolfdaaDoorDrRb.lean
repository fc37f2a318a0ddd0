/-
  The document's door (cortadoref12): Has and Full by their contracts.
-/
import Derived.Test.YthjbkabkoolfdaaDoorDrRa
namespace Go.Proofs.YthjbkabkoolfdaaDoor.dr
open Go.RowKit
theorem arg_box (w : World) (N : Nat) (hN : w.heap.size = N) (x y : Value) : (w.alloc (.cells #[x, y] 32)).heap[N]? = some (.cells #[x, y] 32 (0, 0)) := heap_next hN.symm _
set_option maxHeartbeats 2000000 in
theorem refhas_any {w : World} {v0 : Value} {bs : List Nat} (seed x : Nat) (hs : seed < 18446744073709551616) (hx : x < 18446744073709551616) (h : Q eb w v0 (ub bs)) (hp : 0 < bs.length) (hl : bs.length ≤ 4096) :
    Calls Tryd.prog 26 #[dv v0 seed, .int .u64 (x : Int)] w fun e B => e = .returned (.bool (hasB (plN (mixF seed) (8 * bs.length) x) bs)) ∧ Below w.heap.size w B := by
  obtain ⟨N, hN⟩ : ∃ N, w.heap.size = N := ⟨_, rfl⟩
  have PL : Hid (∀ i, plN (mixF seed) (8 * bs.length) x i < 8 * bs.length) := fun i => plN_lt _ _ _ _ (by omega)
  have T : Hid (∀ (a : Option Addr) (k : Nat) (W : World), Calls Tryd.prog 40 #[dv (.slice a (8 * bs.length) k) seed, .int .u64 (x : Int)] W fun e B => ∃ b c, e = .returned (.slice (some ⟨b, 0, none⟩) 4 c) ∧ Q e64 B (.slice (some ⟨b, 0, none⟩) 4 c) (pl4 (plN (mixF seed) (8 * bs.length) x) 4) ∧ W.heap.size ≤ b ∧ Below W.heap.size W B) := fun a k W => refplaces_any a (8 * bs.length) k seed (by omega) (by omega) hs x hx W
  generalize plN (mixF seed) (8 * bs.length) x = p at *
  obtain ⟨W1, hW1⟩ : ∃ W1, w.alloc (.cells #[v0, .int .u64 (seed : Int)] 32) = W1 := ⟨_, rfl⟩
  have hr1 : W1.heap[N]? = some (.cells #[v0, .int .u64 (seed : Int)] 32 (0, 0)) := by rw [← hW1]; exact arg_box w N hN _ _
  have hb1 : Below N w W1 := by rw [← hW1]; exact (Below.refl _ _).alloc (by omega) _
  have hz1 : W1.heap.size = N + 1 := by rw [← hW1]; simp [hN]
  have c0 : W1.cell? ⟨N, 0, none⟩ = some v0 := by rw [cell_of hr1]; rfl
  have c1 : W1.cell? ⟨N, 1, none⟩ = some (.int .u64 (seed : Int)) := by rw [cell_of hr1]; rfl
  have C : Hid (∀ (b c : Nat) (W2 : World), Q e64 W2 (.slice (some ⟨b, 0, none⟩) 4 c) (pl4 p 4) → Below W1.heap.size W1 W2 → ∀ (W : World), Below W2.heap.size W2 W → ∀ j : Nat, j < 4 → ∃ (bL oL cL : Nat) (y : Bool), v0 = .slice (some ⟨bL, oL, none⟩) (8 * bs.length) cL ∧ W.cell? ⟨N, 0, none⟩ = some (.slice (some ⟨bL, oL, none⟩) (8 * bs.length) cL) ∧ W.cell? ⟨b, j, none⟩ = some (.int .i64 (p j : Int)) ∧ W.cell? ⟨bL, oL + p j, none⟩ = some (.bool y) ∧ p j < 8 * bs.length ∧ Hid (y = (bt bs (p j) == 1))) := fun b c W2 hq hB W hW j hj => by
    have h1 := PL.out j
    have hWb : Below N w W := hb1.trans ((hB.mono (by omega)).trans (hW.mono (by have := hB.size; omega)))
    obtain ⟨bL, oL, cL, hv, hc⟩ := (h.below (hN ▸ hWb)).at_ (p j) (by rw [ub_len]; exact h1)
    rw [ub_len] at hv
    rw [ct_ub bs _ h1] at hc
    have hq2 := hq.below hW
    obtain ⟨b', o', c', hv', hc'⟩ := hq2.at_ j (by rw [pl4_len]; exact hj)
    obtain ⟨e1, -, -⟩ := Value.slice.inj hv'
    simp only [Option.some.injEq, Addr.mk.injEq, and_true] at e1
    obtain ⟨rfl, rfl⟩ := e1
    rw [Nat.zero_add, pl4_at p j 4 hj] at hc'
    exact ⟨bL, oL, cL, _, hv, by rw [cell_of ((hW.block N (by have := hB.size; omega)).trans ((hB.block N (by omega)).trans hr1)), ← hv]; rfl, hc', hc, h1, rfl⟩
  have R0 : Hid (∀ i, i < 4 → (bt bs (p i) == 1) = false → hasB p bs = false) := fun i hi e => has_false i hi (by have := bt_lt bs (p i); simp at e; omega)
  have R1 : Hid ((∀ i, i < 4 → (bt bs (p i) == 1) = true) → hasB p bs = true) := fun e => has_true fun i hi => by simpa using e i hi
  have HB : Hid (∀ W2 W, Below W1.heap.size W1 W2 → Below W2.heap.size W2 W → Below N w W) := fun W2 W hB hW => hb1.trans ((hB.mono (by omega)).trans (hW.mono (by have := hB.size; omega)))
  obtain ⟨a0, k0, hv0, -⟩ := h.slice
  rw [ub_len] at hv0
  clear h hr1 hb1 hz1 PL
  generalize hasB p bs = res at *
  obtain ⟨bq, hbq⟩ : ∃ bq : Nat → Bool, bq = fun i => bt bs (p i) == 1 := ⟨_, rfl⟩
  have C : Hid (∀ (b c : Nat) (W2 : World), Q e64 W2 (.slice (some ⟨b, 0, none⟩) 4 c) (pl4 p 4) → Below W1.heap.size W1 W2 → ∀ (W : World), Below W2.heap.size W2 W → ∀ j : Nat, j < 4 → ∃ (bL oL cL : Nat) (y : Bool), v0 = .slice (some ⟨bL, oL, none⟩) (8 * bs.length) cL ∧ W.cell? ⟨N, 0, none⟩ = some (.slice (some ⟨bL, oL, none⟩) (8 * bs.length) cL) ∧ W.cell? ⟨b, j, none⟩ = some (.int .i64 (p j : Int)) ∧ W.cell? ⟨bL, oL + p j, none⟩ = some (.bool y) ∧ p j < 8 * bs.length ∧ Hid (y = bq j)) := by rw [hbq]; exact C
  have R0 : Hid (∀ i, i < 4 → bq i = false → res = false) := by rw [hbq]; exact R0
  have R1 : Hid ((∀ i, i < 4 → bq i = true) → res = true) := by rw [hbq]; exact R1
  clear hbq
  generalize 8 * bs.length = n at *
  subst hv0
  rw [hN]
  go_enter Tryd.func26, Tryd.ntmps26
  go_wp2_with fail
  clear hW1
  refine (T.out _ _ _).mono ?_
  rintro e w2 ⟨b, c, rfl, hq, -, hb2⟩
  have C := Lib.hid (C.out b c w2 hq hb2)
  have HB := Lib.hid (fun W => HB.out w2 W hb2)
  have S0 : Hid (Below w2.heap.size w2 w2) := Below.refl _ _
  clear hq hb2 T
  go_wp2_with fail
  go_loopw [6] (fun i wr => ∃ j : Nat, j ≤ 4 ∧ i = .int .i64 j ∧ Hid (∀ k, k < j → bq k = true) ∧ Hid (Below w2.heap.size w2 wr)) (fun i _ => 4 - (intOf i).toNat)
  case atStart => exact ⟨0, by omega, rfl, fun k hk => absurd hk (by omega), S0⟩
  case round =>
    obtain ⟨j, hj, rfl, hH, hW⟩ := hrel
    by_cases hlt : j < 4
    · obtain ⟨bL, oL, cL, y, hv, d0, d1, d2, hpn, hy⟩ := C.out wr hW.out j hlt
      obtain ⟨rfl, -, rfl⟩ := Value.slice.inj hv
      have R0 := Lib.hid (R0.out j hlt)
      have h1 : (0 : Int) ≤ (j : Int) := by omega
      have h2 : (j : Int) < 4 := by omega
      have h3 : (0 : Int) ≤ (p j : Int) := by omega
      have h4 : (p j : Int) < (n : Int) := by omega
      have HW : Hid (∀ q, Below w2.heap.size w2 (wr.drewN q)) := fun q => hW.out.trans ⟨rfl, rfl, rfl, Nat.le_refl _, fun _ _ => rfl⟩
      clear C R1 S0
      generalize p j = q at *
      cases y
      · go_wp2_with fail
        go_quiet (fail)
        go_wp2
        go_ret
        exact ⟨by rw [R0.out hy.out.symm]; rfl, HB.out _ (HW.out _)⟩
      · go_wp2_with fail
        go_quiet (fail)
        go_wp2
        go_roundw
        case rel => exact ⟨j + 1, by omega, by simp, fun k hk => by
          by_cases e : k = j
          · rw [e]; exact hy.out.symm
          · exact hH.out k (by omega), HW.out _⟩
        case measure => simp [intOf]; omega
    · obtain rfl : j = 4 := by omega
      clear C R0
      go_wp2
      go_ret
      exact ⟨by rw [R1.out hH.out]; rfl, HB.out _ hW.out⟩
end Go.Proofs.YthjbkabkoolfdaaDoor.dr
