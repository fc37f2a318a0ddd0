/-
  (*Door).Full by its contract: how many bits are 1.
-/
import Derived.Test.YtmfdobppihjjkaaDoorDo
namespace Go.Proofs.YtmfdobppihjjkaaDoor
open Go.RowKit
/-- how many bits are 1 in the first j bytes. -/
theorem ft_ex : ∃ f : List Nat → Nat → Nat, ∀ bs j, f bs j = ((bs.take j).map (wd.popN 64)).sum := ⟨_, fun _ _ => rfl⟩
noncomputable def fullTo : List Nat → Nat → Nat := ft_ex.choose
theorem fullTo_eq (bs : List Nat) (j : Nat) : fullTo bs j = ((bs.take j).map (wd.popN 64)).sum := ft_ex.choose_spec bs j
theorem pop_ex : ∃ f : Nat → Nat, ∀ x, f x = wd.popN 64 x := ⟨_, fun _ => rfl⟩
noncomputable def popF : Nat → Nat := pop_ex.choose
theorem popF_eq (x : Nat) : popF x = wd.popN 64 x := pop_ex.choose_spec x
theorem fullTo_zero (bs : List Nat) : fullTo bs 0 = 0 := by rw [fullTo_eq, List.take_zero]; rfl
theorem fullTo_next (bs : List Nat) (j : Nat) (hj : j < bs.length) : fullTo bs (j + 1) = fullTo bs j + popF (ct bs j) := by
  rw [fullTo_eq, fullTo_eq, List.take_succ_eq_append_getElem hj, List.map_append, List.sum_append, popF_eq]
  simp [ct, hj]
theorem fullTo_le (bs : List Nat) : ∀ j, j ≤ bs.length → fullTo bs j ≤ 64 * j
  | 0, _ => by rw [fullTo_zero]; omega
  | j + 1, h => by
    have h1 := fullTo_le bs j (by omega)
    have h2 : popF (ct bs j) ≤ 64 := by rw [popF_eq]; exact wd.popN_le _ _
    rw [fullTo_next bs j (by omega)]
    omega
theorem fullTo_all (bs : List Nat) : fullTo bs bs.length = fullB bs := by rw [fullTo_eq, List.take_length]; rfl
theorem full_none (w : World) : Calls Tryd.prog 15 #[.pointer none] w fun e w' => e = .returned (.int .i64 0) ∧ w' = w := by
  go_enter Tryd.func15, Tryd.ntmps15
  go_wp2
  go_ret
  exact ⟨rfl, rfl⟩
set_option maxHeartbeats 1000000 in
theorem full_some {w : World} {S G t : Nat} {bs : List Nat} (h : Dr w S G t bs) : Calls Tryd.prog 15 #[.pointer (some ⟨S, 0, none⟩)] w fun e B => e = .returned (.int .i64 (fullB bs : Int)) ∧ B = w := by
  have c0 := h.c0
  have hl := h.lid
  have C : Hid (∀ j : Nat, j < bs.length → ∃ b : Nat, w.cell? ⟨G, j, none⟩ = some (.int .u8 (b : Int)) ∧ b < 256 ∧ fullTo bs (j + 1) = fullTo bs j + popF b ∧ fullTo bs j ≤ 262144 ∧ popF b ≤ 64) := fun j hj =>
    ⟨ct bs j, (h.at_ j hj).1, h.low _, fullTo_next bs j hj, by have := fullTo_le bs j (by omega); omega, by rw [popF_eq]; exact wd.popN_le _ _⟩
  have T : Hid (∀ b : Nat, b < 256 → ∀ W : World, Calls Tryd.prog 26 #[.int .u64 (b : Int)] W fun e w' => e = .returned (.int .i64 (popF b : Int)) ∧ W = w') := fun b hb W => by rw [popF_eq]; exact wd.word_ones b (by omega) W
  have F0 := Lib.hid (fullTo_zero bs)
  have F1 := Lib.hid (fullTo_all bs)
  clear h
  generalize fullB bs = fb at *
  generalize fullTo bs = f at *
  generalize bs.length = m at *
  go_enter Tryd.func15, Tryd.ntmps15
  go_wp2_with fail
  go_loopw [3, 5, 13] (fun s u i wr => ∃ j : Nat, j ≤ m ∧ i = .int .i64 j ∧ s = .int .i64 (f j : Int) ∧ wr = w) (fun _ _ i _ => m - (intOf i).toNat)
  case atStart => exact ⟨0, by omega, rfl, by rw [F0.out]; rfl, rfl⟩
  case round =>
    obtain ⟨j, hj, rfl, rfl, rfl⟩ := hrel
    by_cases hlt : j < m
    · obtain ⟨b, d0, hb, e1, l1, l2⟩ := C.out j hlt
      have T1 := Lib.hid (T.out b hb)
      have h1 : (0 : Int) ≤ (j : Int) := by omega
      have h2 : (j : Int) < (m : Int) := by omega
      clear C T F0 F1
      have E1 := Lib.hid e1
      clear e1
      generalize popF b = pb at *
      generalize hc0 : f j = s0 at *
      generalize hc1 : f (j + 1) = s1 at *
      have HC := Lib.hid hc1
      clear hc0 hc1
      go_wp2_with (go_at_call 26; refine (T1.out _).mono ?_; rintro e w4 ⟨rfl, rfl⟩)
      go_roundw
      case rel => exact ⟨j + 1, by omega, by simp, by rw [HC.out, E1.out]; simp, trivial⟩
      case measure => simp [intOf]; omega
    · obtain rfl : j = m := by omega
      rw [F1.out]
      clear C T F0 F1
      go_wp2
      go_ret
      exact ⟨rfl, rfl⟩
end Go.Proofs.YtmfdobppihjjkaaDoor
