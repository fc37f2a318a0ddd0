/-
  The document's door (cortadoref12): Has and Full by their contracts.
-/
import Derived.Test.YtmfdobppihjjkaaDoorRa
import Derived.Test.YtmfdobppihjjkaaDoorFu
namespace Go.Proofs.YtmfdobppihjjkaaDoor
open Go.RowKit
theorem arg_box (w : World) (N : Nat) (hN : w.heap.size = N) (x y : Value) : (w.alloc (.cells #[x, y] 29)).heap[N]? = some (.cells #[x, y] 29 (0, 0)) := heap_next hN.symm _
set_option maxHeartbeats 2000000 in
theorem refhas_any {w : World} {v0 : Value} {bs : List Nat} (seed x : Nat) (hs : seed < 18446744073709551616) (hx : x < 18446744073709551616) (h : Q eb w v0 (ub bs)) (hp : 0 < bs.length) (hl : bs.length ≤ 4096) :
    Calls Tryd.prog 12 #[dv v0 seed, .int .u64 (x : Int)] w fun e B => e = .returned (.bool (hasB (plN (mixF seed) (8 * bs.length) x) bs)) ∧ Below w.heap.size w B := by
  obtain ⟨N, hN⟩ : ∃ N, w.heap.size = N := ⟨_, rfl⟩
  have PL : Hid (∀ i, plN (mixF seed) (8 * bs.length) x i < 8 * bs.length) := fun i => plN_lt _ _ _ _ (by omega)
  have T : Hid (∀ (a : Option Addr) (k : Nat) (W : World), Calls Tryd.prog 9 #[dv (.slice a (8 * bs.length) k) seed, .int .u64 (x : Int)] W fun e B => ∃ b c, e = .returned (.slice (some ⟨b, 0, none⟩) 4 c) ∧ Q e64 B (.slice (some ⟨b, 0, none⟩) 4 c) (pl4 (plN (mixF seed) (8 * bs.length) x) 4) ∧ W.heap.size ≤ b ∧ Below W.heap.size W B) := fun a k W => refplaces_any a (8 * bs.length) k seed (by omega) (by omega) hs x hx W
  generalize plN (mixF seed) (8 * bs.length) x = p at *
  obtain ⟨W1, hW1⟩ : ∃ W1, w.alloc (.cells #[v0, .int .u64 (seed : Int)] 29) = W1 := ⟨_, rfl⟩
  have hr1 : W1.heap[N]? = some (.cells #[v0, .int .u64 (seed : Int)] 29 (0, 0)) := by rw [← hW1]; exact arg_box w N hN _ _
  have hb1 : Below N w W1 := by rw [← hW1]; exact (Below.refl _ _).alloc (by omega) _
  have hz1 : W1.heap.size = N + 1 := by rw [← hW1]; simp [hN]
  have c0 : W1.cell? ⟨N, 0, none⟩ = some v0 := by rw [cell_of hr1]; rfl
  have c1 : W1.cell? ⟨N, 1, none⟩ = some (.int .u64 (seed : Int)) := by rw [cell_of hr1]; rfl
  have C : Hid (∀ (b c : Nat) (W2 : World), Q e64 W2 (.slice (some ⟨b, 0, none⟩) 4 c) (pl4 p 4) → Below W1.heap.size W1 W2 → ∀ (W : World), Below W2.heap.size W2 W → ∀ j : Nat, j < 4 → ∃ (bL oL cL : Nat) (y : Bool), v0 = .slice (some ⟨bL, oL, none⟩) (8 * bs.length) cL ∧ W.cell? ⟨N, 0, none⟩ = some (.slice (some ⟨bL, oL, none⟩) (8 * bs.length) cL) ∧ W.cell? ⟨b, j, none⟩ = some (.int .i64 (p j : Int)) ∧ W.cell? ⟨bL, oL + p j, none⟩ = some (.bool y) ∧ p j < 8 * bs.length ∧ Hid (y = (bt bs (p j) == 1))) := fun b c W2 hq hB W hW j hj => by
    have h1 := PL.out j
    have hWb : Below N w W := hb1.trans ((hB.mono (by omega)).trans (hW.mono (by have := hB.size; omega)))
    obtain ⟨bL, oL, cL, hv, hc⟩ := (h.below (hN ▸ hWb)).at_ (p j) (by rw [ub_len]; exact h1)
    rw [ub_len] at hv
    rw [ct_ub bs _ h1] at hc
    have hq2 := hq.below hW
    obtain ⟨b', o', c', hv', hc'⟩ := hq2.at_ j (by rw [pl4_len]; exact hj)
    obtain ⟨e1, -, -⟩ := Value.slice.inj hv'
    simp only [Option.some.injEq, Addr.mk.injEq, and_true] at e1
    obtain ⟨rfl, rfl⟩ := e1
    rw [Nat.zero_add, pl4_at p j 4 hj] at hc'
    exact ⟨bL, oL, cL, _, hv, by rw [cell_of ((hW.block N (by have := hB.size; omega)).trans ((hB.block N (by omega)).trans hr1)), ← hv]; rfl, hc', hc, h1, rfl⟩
  have R0 : Hid (∀ i, i < 4 → (bt bs (p i) == 1) = false → hasB p bs = false) := fun i hi e => has_false i hi (by have := bt_lt bs (p i); simp at e; omega)
  have R1 : Hid ((∀ i, i < 4 → (bt bs (p i) == 1) = true) → hasB p bs = true) := fun e => has_true fun i hi => by simpa using e i hi
  have HB : Hid (∀ W2 W, Below W1.heap.size W1 W2 → Below W2.heap.size W2 W → Below N w W) := fun W2 W hB hW => hb1.trans ((hB.mono (by omega)).trans (hW.mono (by have := hB.size; omega)))
  obtain ⟨a0, k0, hv0, -⟩ := h.slice
  rw [ub_len] at hv0
  clear h hr1 hb1 hz1 PL
  generalize hasB p bs = res at *
  obtain ⟨bq, hbq⟩ : ∃ bq : Nat → Bool, bq = fun i => bt bs (p i) == 1 := ⟨_, rfl⟩
  have C : Hid (∀ (b c : Nat) (W2 : World), Q e64 W2 (.slice (some ⟨b, 0, none⟩) 4 c) (pl4 p 4) → Below W1.heap.size W1 W2 → ∀ (W : World), Below W2.heap.size W2 W → ∀ j : Nat, j < 4 → ∃ (bL oL cL : Nat) (y : Bool), v0 = .slice (some ⟨bL, oL, none⟩) (8 * bs.length) cL ∧ W.cell? ⟨N, 0, none⟩ = some (.slice (some ⟨bL, oL, none⟩) (8 * bs.length) cL) ∧ W.cell? ⟨b, j, none⟩ = some (.int .i64 (p j : Int)) ∧ W.cell? ⟨bL, oL + p j, none⟩ = some (.bool y) ∧ p j < 8 * bs.length ∧ Hid (y = bq j)) := by rw [hbq]; exact C
  have R0 : Hid (∀ i, i < 4 → bq i = false → res = false) := by rw [hbq]; exact R0
  have R1 : Hid ((∀ i, i < 4 → bq i = true) → res = true) := by rw [hbq]; exact R1
  clear hbq
  generalize 8 * bs.length = n at *
  subst hv0
  rw [hN]
  go_enter Tryd.func12, Tryd.ntmps12
  go_wp2_with fail
  clear hW1
  refine (T.out _ _ _).mono ?_
  rintro e w2 ⟨b, c, rfl, hq, -, hb2⟩
  have C := Lib.hid (C.out b c w2 hq hb2)
  have HB := Lib.hid (fun W => HB.out w2 W hb2)
  have S0 : Hid (Below w2.heap.size w2 w2) := Below.refl _ _
  clear hq hb2 T
  go_wp2_with fail
  go_loopw [6] (fun i wr => ∃ j : Nat, j ≤ 4 ∧ i = .int .i64 j ∧ Hid (∀ k, k < j → bq k = true) ∧ Hid (Below w2.heap.size w2 wr)) (fun i _ => 4 - (intOf i).toNat)
  case atStart => exact ⟨0, by omega, rfl, fun k hk => absurd hk (by omega), S0⟩
  case round =>
    obtain ⟨j, hj, rfl, hH, hW⟩ := hrel
    by_cases hlt : j < 4
    · obtain ⟨bL, oL, cL, y, hv, d0, d1, d2, hpn, hy⟩ := C.out wr hW.out j hlt
      obtain ⟨rfl, -, rfl⟩ := Value.slice.inj hv
      have R0 := Lib.hid (R0.out j hlt)
      have h1 : (0 : Int) ≤ (j : Int) := by omega
      have h2 : (j : Int) < 4 := by omega
      have h3 : (0 : Int) ≤ (p j : Int) := by omega
      have h4 : (p j : Int) < (n : Int) := by omega
      have HW : Hid (∀ q, Below w2.heap.size w2 (wr.drewN q)) := fun q => hW.out.trans ⟨rfl, rfl, rfl, Nat.le_refl _, fun _ _ => rfl⟩
      clear C R1 S0
      generalize p j = q at *
      cases y
      · go_wp2_with fail
        go_quiet (fail)
        go_wp2
        go_ret
        exact ⟨by rw [R0.out hy.out.symm]; rfl, HB.out _ (HW.out _)⟩
      · go_wp2_with fail
        go_quiet (fail)
        go_wp2
        go_roundw
        case rel => exact ⟨j + 1, by omega, by simp, fun k hk => by
          by_cases e : k = j
          · rw [e]; exact hy.out.symm
          · exact hH.out k (by omega), HW.out _⟩
        case measure => simp [intOf]; omega
    · obtain rfl : j = 4 := by omega
      clear C R0
      go_wp2
      go_ret
      exact ⟨by rw [R1.out hH.out]; rfl, HB.out _ hW.out⟩
/-- how many of the first j bits are 1. -/
theorem st_ex : ∃ f : List Nat → Nat → Nat, ∀ l j, f l j = (l.take j).sum := ⟨_, fun _ _ => rfl⟩
noncomputable def sumTo : List Nat → Nat → Nat := st_ex.choose
theorem sumTo_eq (l : List Nat) (j : Nat) : sumTo l j = (l.take j).sum := st_ex.choose_spec l j
theorem sumTo_zero (l : List Nat) : sumTo l 0 = 0 := by rw [sumTo_eq, List.take_zero]; rfl
theorem sumTo_next (l : List Nat) (j : Nat) (hj : j < l.length) : sumTo l (j + 1) = sumTo l j + ct l j := by
  rw [sumTo_eq, sumTo_eq, List.take_succ_eq_append_getElem hj, List.sum_append]
  simp [ct, hj]
theorem sumTo_le (bs : List Nat) : ∀ j, j ≤ 8 * bs.length → sumTo (ub bs) j ≤ j
  | 0, _ => by rw [sumTo_zero]; omega
  | j + 1, h => by
    have h1 := sumTo_le bs j (by omega)
    rw [sumTo_next _ j (by rw [ub_len]; omega), ct_ub bs j (by omega)]
    have := bt_lt bs j
    omega
theorem sumTo_all (bs : List Nat) (h : ∀ k, ct bs k < 256) : sumTo (ub bs) (8 * bs.length) = fullB bs := by
  rw [sumTo_eq, ← ub_len, List.take_length, full_ub bs h]
set_option maxHeartbeats 2000000 in
theorem reffull_any {w : World} {v0 : Value} {bs : List Nat} (seed : Nat) (h : Q eb w v0 (ub bs)) (hl : bs.length ≤ 4096) (hlow : ∀ k, ct bs k < 256) :
    Calls Tryd.prog 16 #[dv v0 seed] w fun e B => e = .returned (.int .i64 (fullB bs : Int)) ∧ Below w.heap.size w B := by
  obtain ⟨N, hN⟩ : ∃ N, w.heap.size = N := ⟨_, rfl⟩
  obtain ⟨W1, hW1⟩ : ∃ W1, w.alloc (.cells #[v0, .int .u64 (seed : Int)] 29) = W1 := ⟨_, rfl⟩
  have hr1 : W1.heap[N]? = some (.cells #[v0, .int .u64 (seed : Int)] 29 (0, 0)) := by rw [← hW1]; exact arg_box w N hN _ _
  have hb1 : Below N w W1 := by rw [← hW1]; exact (Below.refl _ _).alloc (by omega) _
  have c0 : W1.cell? ⟨N, 0, none⟩ = some v0 := by rw [cell_of hr1]; rfl
  have C : Hid (∀ j : Nat, j < 8 * bs.length → ∃ (bL oL cL : Nat) (y : Bool), v0 = .slice (some ⟨bL, oL, none⟩) (8 * bs.length) cL ∧ W1.cell? ⟨bL, oL + j, none⟩ = some (.bool y) ∧ sumTo (ub bs) (j + 1) = sumTo (ub bs) j + (if y then 1 else 0) ∧ sumTo (ub bs) j ≤ 32768) := fun j hj => by
    obtain ⟨bL, oL, cL, hv, hc⟩ := (h.below (hN ▸ hb1)).at_ j (by rw [ub_len]; exact hj)
    rw [ub_len] at hv
    refine ⟨bL, oL, cL, _, hv, hc, ?_, by have := sumTo_le bs j (by omega); omega⟩
    rw [sumTo_next _ j (by rw [ub_len]; exact hj), ct_ub bs j hj]
    have := bt_lt bs j
    rcases (show bt bs j = 0 ∨ bt bs j = 1 by omega) with e | e <;> rw [e] <;> rfl
  have F0 := Lib.hid (sumTo_zero (ub bs))
  have F1 := Lib.hid (sumTo_all bs hlow)
  have HB := Lib.hid hb1
  obtain ⟨a0, k0, hv0, -⟩ := h.slice
  rw [ub_len] at hv0
  have hn : 8 * bs.length ≤ 32768 := by omega
  clear h hr1 hb1
  generalize sumTo (ub bs) = f at *
  generalize fullB bs = fb at *
  generalize 8 * bs.length = n at *
  subst hv0
  rw [hN]
  go_enter Tryd.func16, Tryd.ntmps16
  go_wp2_with fail
  clear hW1
  go_loopw [3, 4] (fun s i wr => ∃ j : Nat, j ≤ n ∧ i = .int .i64 j ∧ s = .int .i64 (f j : Int) ∧ wr = W1) (fun _ i _ => n - (intOf i).toNat)
  case atStart => exact ⟨0, by omega, rfl, by rw [F0.out]; rfl, rfl⟩
  case round =>
    obtain ⟨j, hj, rfl, rfl, rfl⟩ := hrel
    by_cases hlt : j < n
    · obtain ⟨bL, oL, cL, y, hv, d2, e1, l1⟩ := C.out j hlt
      obtain ⟨rfl, -, rfl⟩ := Value.slice.inj hv
      have h1 : (0 : Int) ≤ (j : Int) := by omega
      have h2 : (j : Int) < (n : Int) := by omega
      have E1 := Lib.hid e1
      clear C F0 F1 e1
      generalize hc0 : f j = s0 at *
      generalize hc1 : f (j + 1) = s1 at *
      have HC := Lib.hid hc1
      clear hc0 hc1
      cases y
      · go_wp2
        go_roundw
        case rel => exact ⟨j + 1, by omega, by simp, by rw [HC.out, E1.out]; simp, trivial⟩
        case measure => simp [intOf]; omega
      · go_wp2
        go_roundw
        case rel => exact ⟨j + 1, by omega, by simp, by rw [HC.out, E1.out]; simp, trivial⟩
        case measure => simp [intOf]; omega
    · obtain rfl : j = n := by omega
      rw [F1.out]
      clear C F0 F1
      go_wp2
      go_ret
      exact ⟨rfl, HB.out⟩
end Go.Proofs.YtmfdobppihjjkaaDoor
