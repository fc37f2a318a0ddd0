/-
  The functions of package word, and the powers of its reference, by their contracts: what each returns, for every input of its types; the world stays as it was.
-/
import Derived.Test.YtnhpcjiieagjnaaDoorRows
import Derived.Test.YtnhpcjiieagjnaaDoorWdMath
import Derived.Test.YtnhpcjiieagjnaaDoorWdLen
import Derived.WalkKit
import Derived.ProofKit
import Derived.OpenShut
import Derived.Lib.Hide
import Derived.Laws.Bits64
import Derived.Lib.Walk
import Derived.Lib.Small
import Derived.Lib.BitFns
namespace Go.Proofs.YtnhpcjiieagjnaaDoor.wd
open Go.ChangeShapes Go.WideShapes Go.ChangeAt Go.RowKit
set_option maxHeartbeats 400000 in
theorem log_any (x : Nat) (hx : x < 18446744073709551616) (w : World) :
    Calls Tryd.prog 67 #[.int .u64 x] w fun e w' => e = .returned (.int .i64 ((lenN x : Int) - 1)) ∧ w = w' := by
  have hl : lenN x ≤ 64 := lenN_le x 64 hx
  go_enter Tryd.func67, Tryd.ntmps67
  go_wp2_with (go_at_call 84; refine (len64_any _ _ (by omega) (by omega)).mono ?_; rintro e w' ⟨rfl, rfl⟩; rw [Int.toNat_natCast])
  go_ret
  exact ⟨rfl, rfl⟩
def pwN (n : Int) : Nat := 2 ^ lenN ((min (max n 1) 4611686018427387904 - 1).toNat)
set_option maxHeartbeats 400000 in
theorem power_any (n : Int) (w : World) :
    Calls Tryd.prog 40 #[.int .i64 n] w fun e w' => e = .returned (.int .i64 (pwN n : Nat)) ∧ w = w' := by
  obtain ⟨m, hm, hm0, hm1⟩ : ∃ m : Int, min (max n 1) 4611686018427387904 = m ∧ 1 ≤ m ∧ m ≤ 4611686018427387904 := ⟨_, rfl, by omega, by omega⟩
  obtain ⟨q, hq, hq1⟩ : ∃ q : Nat, m - 1 = (q : Int) ∧ q < 4611686018427387904 := ⟨(m - 1).toNat, by omega, by omega⟩
  have hl : lenN q ≤ 62 := lenN_le q 62 hq1
  have e : pwN n = 2 ^ lenN q := by unfold pwN; rw [hm, hq]; rfl
  have E := Lib.hid e
  clear e
  go_enter Tryd.func40, Tryd.ntmps40
  go_wp2_with (go_at_call 67; refine (log_any q (by omega) _).mono ?_; rintro e w' ⟨rfl, rfl⟩)
  go_ret
  refine ⟨congrArg Ending.returned (congrArg (Value.int IntKind.i64) ?_), rfl⟩
  rw [E.out]
  have hp : (2 : Nat) ^ lenN q ≤ 4611686018427387904 := Nat.pow_le_pow_right (n := 2) (by decide) hl
  have e0 : ((2 : Int) ^ lenN q) = ((2 ^ lenN q : Nat) : Int) := by simp
  rw [e0]
  generalize (2 : Nat) ^ lenN q = p at *
  unfold wrap64
  omega
theorem refpow_eq (n : Int) (i : Nat) (hi : i ≤ 62) (h1 : i = 62 ∨ n ≤ 2 ^ i) (h2 : ∀ j, j < i → (2 : Int) ^ j < n) : pwN n = 2 ^ i := by
  unfold pwN
  congr 1
  have c : ∀ j : Nat, ((2 : Int) ^ j) = ((2 ^ j : Nat) : Int) := fun j => by simp
  rw [c] at h1
  have h62 : (2 : Nat) ^ i ≤ 2 ^ 62 := Nat.pow_le_pow_right (by decide) hi
  have h62' : (2 : Nat) ^ 62 = 4611686018427387904 := by decide
  cases i with
  | zero =>
    have : (min (max n 1) 4611686018427387904 - 1).toNat = 0 := by
      rcases h1 with h1 | h1
      · omega
      · simp at h1; omega
    rw [this]; rfl
  | succ j =>
    have h3 := h2 j (by omega)
    rw [c] at h3
    have h4 : (2 : Nat) ^ j ≤ 2 ^ 61 := Nat.pow_le_pow_right (by decide) (by omega)
    have h5 := Nat.two_pow_pos j
    have h6 : (2 : Nat) ^ (j + 1) = 2 * 2 ^ j := by rw [Nat.pow_succ, Nat.mul_comm]
    rw [h6] at h1 h62
    refine lenN_of _ j ?_ ?_
    · generalize (2 : Nat) ^ j = p at *; simp at h4; omega
    · rw [h6]
      rcases h1 with h1 | h1
      · have : j = 61 := by omega
        subst this
        simp; omega
      · generalize (2 : Nat) ^ j = p at *; omega
set_option maxHeartbeats 400000 in
theorem refpower_any (n : Int) (w : World) :
    Calls Tryd.prog 64 #[.int .i64 n] w fun e w' => e = .returned (.int .i64 (pwN n : Nat)) ∧ w = w' := by
  go_enter Tryd.func64, Tryd.ntmps64
  go_wp2
  go_loop [3, 4] (fun p i => ∃ k : Nat, k ≤ 62 ∧ i = .int .i64 k ∧ p = .int .i64 ((2 ^ k : Nat) : Int) ∧ (∀ j, j < k → (2 : Int) ^ j < n)) (fun _ i => 62 - (intOf i).toNat)
  case atStart => exact ⟨0, by omega, rfl, rfl, fun j hj => absurd hj (by omega)⟩
  case round =>
    obtain ⟨k, hk, rfl, rfl, hlt⟩ := hrel
    have HL := Lib.hid hlt
    clear hlt
    have hp : 2 ^ k ≤ 2 ^ 62 := Nat.pow_le_pow_right (by decide) hk
    obtain ⟨p, hpp⟩ : ∃ p : Nat, 2 ^ k = p := ⟨_, rfl⟩
    rw [hpp] at hp
    have hp1 : 1 ≤ p := by rw [← hpp]; exact Nat.two_pow_pos k
    have hp2 : p ≤ 4611686018427387904 := hp
    clear hp
    rw [hpp]
    have HP := Lib.hid hpp
    clear hpp
    by_cases h62 : k < 62
    · by_cases hn : (p : Int) < n
      · have hp3 : p ≤ 2305843009213693952 := by
          have : 2 ^ k ≤ 2 ^ 61 := Nat.pow_le_pow_right (by decide) (by omega)
          rw [HP.out] at this
          simpa using this
        go_wp2
        go_round
        case rel => exact ⟨k + 1, by omega, by go_num, by rw [Nat.pow_succ, HP.out]; go_num, fun j hj => by
          rcases Nat.lt_or_ge j k with h | h
          · exact HL.out j h
          · have : j = k := by omega
            subst this
            have := HP.out
            rw [← this] at hn
            simpa using hn⟩
        case measure => simp [intOf]; omega
      · go_wp2
        go_ret
        refine ⟨?_, rfl⟩
        rw [refpow_eq n k hk (.inr (by rw [← HP.out] at hn; simpa using hn)) HL.out, HP.out]
        rfl
    · go_wp2
      go_ret
      refine ⟨?_, rfl⟩
      rw [refpow_eq n k hk (.inl (by omega)) HL.out, HP.out]
      rfl
end Go.Proofs.YtnhpcjiieagjnaaDoor.wd
