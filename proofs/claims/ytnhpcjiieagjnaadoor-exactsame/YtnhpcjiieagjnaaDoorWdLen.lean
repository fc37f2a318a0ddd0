/-
  bits.Len64 returns how many bits are wanted for x, for every x from 0 to 2^64 - 1 (one more than the highest place with a 1; 0 of 0); the world stays as it was.
-/
import Derived.Test.YtnhpcjiieagjnaaDoorProg
import Derived.Test.YtnhpcjiieagjnaaDoorWdMath
import Derived.Lib.Strings
import Derived.Lib.Slices
import Derived.Lib.Small
import Derived.Lib.Walk
namespace Go.Proofs.YtnhpcjiieagjnaaDoor.wd
/-- the byte t of x above the place s tells the length of x, if nothing stands above that byte. -/
theorem len_way (x t : Int) (s : Nat) (hx : 0 ≤ x) (ht : t = x / 2 ^ s) (h0 : s = 0 ∨ 1 ≤ t) (h1 : t ≤ 255) : ((Lib.bitLen t.toNat : Nat) : Int) + s = lenN x.toNat ∧ Lib.bitLen t.toNat ≤ 8 := by
  obtain ⟨n, rfl⟩ := Int.eq_ofNat_of_zero_le hx
  have e : t = ((n / 2 ^ s : Nat) : Int) := by rw [ht]; simp
  subst e
  rw [Int.toNat_natCast, Int.toNat_natCast]
  have hb : n / 2 ^ s < 256 := by omega
  rw [lenN_eq _ (by omega)]
  have h8 : lenN (n / 2 ^ s) ≤ 8 := lenN_le _ 8 hb
  refine ⟨?_, h8⟩
  rcases h0 with h0 | h0
  · subst h0; simp
  · have hq : n / 2 ^ s ≠ 0 := by omega
    have lo := Nat.log2_self_le hq
    have hi := Nat.lt_log2_self (n := n / 2 ^ s)
    have el : lenN (n / 2 ^ s) = (n / 2 ^ s).log2 + 1 := by unfold lenN; rw [if_neg hq]
    rw [el]
    generalize (n / 2 ^ s).log2 = k at *
    have g1 : 2 ^ (k + s) ≤ n := by rw [Nat.pow_add]; exact Nat.le_trans (Nat.mul_le_mul_right _ lo) (Nat.div_mul_le_self n (2 ^ s))
    have g2 : n < 2 ^ (k + s + 1) := by
      rw [show k + s + 1 = (k + 1) + s from by omega, Nat.pow_add]
      exact (Nat.div_lt_iff_lt_mul (Nat.two_pow_pos s)).mp hi
    rw [lenN_of n (k + s) g1 g2]
    omega
set_option maxHeartbeats 4000000 in
set_option maxRecDepth 100000 in
theorem len64_any (x : Int) (w : World) (h0 : 0 ≤ x) (h1 : x ≤ 18446744073709551615) :
    Calls Tryd.prog 84 #[.int .u64 x] w fun e w' => e = .returned (.int .i64 (lenN x.toNat)) ∧ w = w' := by
  go_enter Tryd.func84, Tryd.ntmps84
  go_wp2
  all_goals go_ret
  all_goals refine ⟨congrArg Ending.returned (congrArg (Value.int IntKind.i64) ?_), rfl⟩
  all_goals first
    | (have h := len_way x (x / 4294967296 / 65536 / 256 % 256) 56 h0 (by omega) (by omega) (by omega); rw [Lib.len8_of (x / 4294967296 / 65536 / 256 % 256) (by omega) (by omega)]; omega)
    | (have h := len_way x (x / 4294967296 / 65536 % 256) 48 h0 (by omega) (by omega) (by omega); rw [Lib.len8_of (x / 4294967296 / 65536 % 256) (by omega) (by omega)]; omega)
    | (have h := len_way x (x / 4294967296 / 256 % 256) 40 h0 (by omega) (by omega) (by omega); rw [Lib.len8_of (x / 4294967296 / 256 % 256) (by omega) (by omega)]; omega)
    | (have h := len_way x (x / 4294967296 % 256) 32 h0 (by omega) (by omega) (by omega); rw [Lib.len8_of (x / 4294967296 % 256) (by omega) (by omega)]; omega)
    | (have h := len_way x (x / 65536 / 256 % 256) 24 h0 (by omega) (by omega) (by omega); rw [Lib.len8_of (x / 65536 / 256 % 256) (by omega) (by omega)]; omega)
    | (have h := len_way x (x / 65536 % 256) 16 h0 (by omega) (by omega) (by omega); rw [Lib.len8_of (x / 65536 % 256) (by omega) (by omega)]; omega)
    | (have h := len_way x (x / 256 % 256) 8 h0 (by omega) (by omega) (by omega); rw [Lib.len8_of (x / 256 % 256) (by omega) (by omega)]; omega)
    | (have h := len_way x (x % 256) 0 h0 (by omega) (by omega) (by omega); rw [Lib.len8_of (x % 256) (by omega) (by omega)]; omega)
end Go.Proofs.YtnhpcjiieagjnaaDoor.wd
