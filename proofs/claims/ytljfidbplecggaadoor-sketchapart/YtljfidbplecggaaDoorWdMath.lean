/-
  Plain arithmetic: how many bits a number wants. Nothing here speaks of a program.
-/
import Derived.Laws.BitsAllLaws
import Derived.Lib.BitFns
namespace Go.Proofs.YtljfidbplecggaaDoor.wd
/-! the highest bit -/
def lenN (x : Nat) : Nat := if x = 0 then 0 else x.log2 + 1
theorem lenN_aux (f x : Nat) (h : x < 2 ^ f) : Lib.bitLenAux f x = lenN x := by
  induction f generalizing x with
  | zero =>
    have : x = 0 := by simpa using h
    simp [Lib.bitLenAux, lenN, this]
  | succ f ih =>
    unfold Lib.bitLenAux lenN
    by_cases h0 : x = 0
    · simp [h0]
    · rw [if_neg h0, if_neg h0, ih (x / 2) (by rw [Nat.pow_succ] at h; omega), Nat.log2_def x]
      unfold lenN
      by_cases h1 : x ≥ 2
      · rw [if_pos h1, if_neg (by omega)]; omega
      · rw [if_neg h1, if_pos (by omega)]
theorem lenN_eq (x : Nat) (h : x < 18446744073709551616) : Lib.bitLen x = lenN x := lenN_aux 64 x h
theorem lenN_of (x k : Nat) (h1 : 2 ^ k ≤ x) (h2 : x < 2 ^ (k + 1)) : lenN x = k + 1 := by
  have h0 : x ≠ 0 := by have := Nat.two_pow_pos k; omega
  unfold lenN
  rw [if_neg h0, (Nat.log2_eq_iff h0).mpr ⟨h1, h2⟩]
theorem lenN_zero : lenN 0 = 0 := rfl
theorem lenN_le (x k : Nat) (h : x < 2 ^ k) : lenN x ≤ k := by
  unfold lenN
  by_cases h0 : x = 0
  · simp [h0]
  · rw [if_neg h0]
    exact (Nat.log2_lt h0).mpr h
end Go.Proofs.YtljfidbplecggaaDoor.wd
