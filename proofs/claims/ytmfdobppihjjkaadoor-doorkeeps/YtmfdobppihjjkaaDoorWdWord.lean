/-
  The functions of package word, and the powers of its reference, by their contracts: what each returns, for every input of its types; the world stays as it was.
-/
import Derived.Test.YtmfdobppihjjkaaDoorRows
import Derived.Test.YtmfdobppihjjkaaDoorWdMath
import Derived.Test.YtmfdobppihjjkaaDoorWdLen
import Derived.WalkKit
import Derived.ProofKit
import Derived.OpenShut
import Derived.Lib.Hide
import Derived.Laws.Bits64
import Derived.Lib.Walk
import Derived.Lib.Small
import Derived.Lib.BitFns
namespace Go.Proofs.YtmfdobppihjjkaaDoor.wd
open Go.ChangeShapes Go.WideShapes Go.ChangeAt Go.RowKit
theorem st1 (x : Nat) (hx : x < 18446744073709551616) : IntKind.u64.wrap (bits BinOp.and IntKind.u64 (↑x / 2) 6148914691236517205 + bits BinOp.and IntKind.u64 ↑x 6148914691236517205) = ((g1 8 x : Nat) : Int) ∧ g1 8 x < 18446744073709551616 := by
  have e := u64_and_nat (x / 2) 6148914691236517205 (by omega) (by decide)
  have e' := u64_and_nat x 6148914691236517205 hx (by decide)
  have l1 : x / 2 &&& 6148914691236517205 ≤ 6148914691236517205 := Nat.and_le_right
  have l2 : x &&& 6148914691236517205 ≤ 6148914691236517205 := Nat.and_le_right
  have r : rep 85 8 = 6148914691236517205 := by decide
  unfold g1
  rw [r]
  simp only [Int.natCast_ediv, Int.cast_ofNat_Int] at e e'
  rw [e, e', IntKind.wrap_u64]
  omega
theorem st2 (x : Nat) (hx : x < 18446744073709551616) : IntKind.u64.wrap (bits BinOp.and IntKind.u64 (↑x / 4) 3689348814741910323 + bits BinOp.and IntKind.u64 ↑x 3689348814741910323) = ((g2 8 x : Nat) : Int) ∧ g2 8 x ≤ 7378697629483820646 := by
  have e := u64_and_nat (x / 4) 3689348814741910323 (by omega) (by decide)
  have e' := u64_and_nat x 3689348814741910323 hx (by decide)
  have l1 : x / 4 &&& 3689348814741910323 ≤ 3689348814741910323 := Nat.and_le_right
  have l2 : x &&& 3689348814741910323 ≤ 3689348814741910323 := Nat.and_le_right
  have r : rep 51 8 = 3689348814741910323 := by decide
  unfold g2
  rw [r]
  simp only [Int.natCast_ediv, Int.cast_ofNat_Int] at e e'
  rw [e, e', IntKind.wrap_u64]
  omega
theorem st3 (y : Nat) (hy : y ≤ 7378697629483820646) : bits BinOp.and IntKind.u64 (IntKind.u64.wrap (↑y / 16 + ↑y)) 1085102592571150095 = ((g3 8 y : Nat) : Int) ∧ g3 8 y ≤ 1085102592571150095 := by
  have e := u64_and_nat (y / 16 + y) 1085102592571150095 (by omega) (by decide)
  have l : y / 16 + y &&& 1085102592571150095 ≤ 1085102592571150095 := Nat.and_le_right
  have r : rep 15 8 = 1085102592571150095 := by decide
  have e1 : IntKind.u64.wrap ((y : Int) / 16 + y) = ((y / 16 + y : Nat) : Int) := by rw [IntKind.wrap_u64]; omega
  unfold g3
  rw [r, e1]
  exact ⟨e, l⟩
theorem i64_fits (n : Int) (h0 : 0 ≤ n) (h1 : n < 2 ^ 63) : IntKind.i64.wrap n = n := by rw [IntKind.wrap_i64]; omega
theorem st4 (z : Nat) (hz : z ≤ 1085102592571150095) :
    bits BinOp.and IntKind.i64 (wrap64 (IntKind.u64.wrap (IntKind.u64.wrap (IntKind.u64.wrap (↑z + ↑z / 256) + IntKind.u64.wrap (↑z + ↑z / 256) / 65536) + IntKind.u64.wrap (IntKind.u64.wrap (↑z + ↑z / 256) + IntKind.u64.wrap (↑z + ↑z / 256) / 65536) / 4294967296))) 127 = ((last3 z : Nat) : Int) := by
  unfold last3
  have e1 : IntKind.u64.wrap ((z : Int) + z / 256) = ((z + z / 256 : Nat) : Int) := by rw [IntKind.wrap_u64]; omega
  rw [e1]
  have h1 : z + z / 256 ≤ 1200000000000000000 := by omega
  generalize z + z / 256 = a at *
  have e2 : IntKind.u64.wrap ((a : Int) + a / 65536) = ((a + a / 65536 : Nat) : Int) := by rw [IntKind.wrap_u64]; omega
  rw [e2]
  have h2 : a + a / 65536 ≤ 1300000000000000000 := by omega
  generalize a + a / 65536 = b at *
  have e3 : IntKind.u64.wrap ((b : Int) + b / 4294967296) = ((b + b / 4294967296 : Nat) : Int) := by rw [IntKind.wrap_u64]; omega
  rw [e3]
  have h3 : b + b / 4294967296 ≤ 1400000000000000000 := by omega
  generalize b + b / 4294967296 = c at *
  have e4 : wrap64 (c : Int) = (c : Int) := by
    unfold wrap64
    omega
  rw [e4]
  have := bits_mask .i64 63 (by decide) i64_fits 7 (by decide) (c : Int) (by omega) (by omega)
  rw [show ((2 : Int) ^ 7 - 1) = 127 from rfl] at this
  rw [this]
  omega
set_option maxHeartbeats 400000 in
theorem ones_any (x : Nat) (hx : x < 18446744073709551616) (w : World) :
    Calls Tryd.prog 30 #[.int .u64 x] w fun e w' => e = .returned (.int .i64 (popN 64 x : Nat)) ∧ w = w' := by
  go_enter Tryd.func30, Tryd.ntmps30
  go_wp2
  go_ret
  refine ⟨congrArg Ending.returned (congrArg (Value.int IntKind.i64) ?_), rfl⟩
  obtain ⟨e1, l1⟩ := st1 x hx
  rw [e1]
  obtain ⟨e2, l2⟩ := st2 (g1 8 x) l1
  rw [e2]
  obtain ⟨e3, l3⟩ := st3 (g2 8 (g1 8 x)) l2
  rw [e3, st4 _ l3, ones_eq]
set_option maxHeartbeats 400000 in
theorem word_ones (x : Nat) (hx : x < 18446744073709551616) (w : World) :
    Calls Tryd.prog 26 #[.int .u64 x] w fun e w' => e = .returned (.int .i64 (popN 64 x : Nat)) ∧ w = w' := by
  go_enter Tryd.func26, Tryd.ntmps26
  go_wp2_with (go_at_call 30; refine (ones_any _ hx _).mono ?_; rintro e w' ⟨rfl, rfl⟩)
  go_ret
  exact ⟨rfl, rfl⟩
set_option maxHeartbeats 400000 in
theorem log_any (x : Nat) (hx : x < 18446744073709551616) (w : World) :
    Calls Tryd.prog 27 #[.int .u64 x] w fun e w' => e = .returned (.int .i64 ((lenN x : Int) - 1)) ∧ w = w' := by
  have hl : lenN x ≤ 64 := lenN_le x 64 hx
  go_enter Tryd.func27, Tryd.ntmps27
  go_wp2_with (go_at_call 31; refine (len64_any _ _ (by omega) (by omega)).mono ?_; rintro e w' ⟨rfl, rfl⟩; rw [Int.toNat_natCast])
  go_ret
  exact ⟨rfl, rfl⟩
def pwN (n : Int) : Nat := 2 ^ lenN ((min (max n 1) 4611686018427387904 - 1).toNat)
set_option maxHeartbeats 400000 in
theorem power_any (n : Int) (w : World) :
    Calls Tryd.prog 20 #[.int .i64 n] w fun e w' => e = .returned (.int .i64 (pwN n : Nat)) ∧ w = w' := by
  obtain ⟨m, hm, hm0, hm1⟩ : ∃ m : Int, min (max n 1) 4611686018427387904 = m ∧ 1 ≤ m ∧ m ≤ 4611686018427387904 := ⟨_, rfl, by omega, by omega⟩
  obtain ⟨q, hq, hq1⟩ : ∃ q : Nat, m - 1 = (q : Int) ∧ q < 4611686018427387904 := ⟨(m - 1).toNat, by omega, by omega⟩
  have hl : lenN q ≤ 62 := lenN_le q 62 hq1
  have e : pwN n = 2 ^ lenN q := by unfold pwN; rw [hm, hq]; rfl
  have E := Lib.hid e
  clear e
  go_enter Tryd.func20, Tryd.ntmps20
  go_wp2_with (go_at_call 27; refine (log_any q (by omega) _).mono ?_; rintro e w' ⟨rfl, rfl⟩)
  go_ret
  refine ⟨congrArg Ending.returned (congrArg (Value.int IntKind.i64) ?_), rfl⟩
  rw [E.out]
  have hp : (2 : Nat) ^ lenN q ≤ 4611686018427387904 := Nat.pow_le_pow_right (n := 2) (by decide) hl
  have e0 : ((2 : Int) ^ lenN q) = ((2 ^ lenN q : Nat) : Int) := by simp
  rw [e0]
  generalize (2 : Nat) ^ lenN q = p at *
  unfold wrap64
  omega
theorem refpow_eq (n : Int) (i : Nat) (hi : i ≤ 62) (h1 : i = 62 ∨ n ≤ 2 ^ i) (h2 : ∀ j, j < i → (2 : Int) ^ j < n) : pwN n = 2 ^ i := by
  unfold pwN
  congr 1
  have c : ∀ j : Nat, ((2 : Int) ^ j) = ((2 ^ j : Nat) : Int) := fun j => by simp
  rw [c] at h1
  have h62 : (2 : Nat) ^ i ≤ 2 ^ 62 := Nat.pow_le_pow_right (by decide) hi
  have h62' : (2 : Nat) ^ 62 = 4611686018427387904 := by decide
  cases i with
  | zero =>
    have : (min (max n 1) 4611686018427387904 - 1).toNat = 0 := by
      rcases h1 with h1 | h1
      · omega
      · simp at h1; omega
    rw [this]; rfl
  | succ j =>
    have h3 := h2 j (by omega)
    rw [c] at h3
    have h4 : (2 : Nat) ^ j ≤ 2 ^ 61 := Nat.pow_le_pow_right (by decide) (by omega)
    have h5 := Nat.two_pow_pos j
    have h6 : (2 : Nat) ^ (j + 1) = 2 * 2 ^ j := by rw [Nat.pow_succ, Nat.mul_comm]
    rw [h6] at h1 h62
    refine lenN_of _ j ?_ ?_
    · generalize (2 : Nat) ^ j = p at *; simp at h4; omega
    · rw [h6]
      rcases h1 with h1 | h1
      · have : j = 61 := by omega
        subst this
        simp; omega
      · generalize (2 : Nat) ^ j = p at *; omega
set_option maxHeartbeats 400000 in
theorem refpower_any (n : Int) (w : World) :
    Calls Tryd.prog 22 #[.int .i64 n] w fun e w' => e = .returned (.int .i64 (pwN n : Nat)) ∧ w = w' := by
  go_enter Tryd.func22, Tryd.ntmps22
  go_wp2
  go_loop [3, 4] (fun p i => ∃ k : Nat, k ≤ 62 ∧ i = .int .i64 k ∧ p = .int .i64 ((2 ^ k : Nat) : Int) ∧ (∀ j, j < k → (2 : Int) ^ j < n)) (fun _ i => 62 - (intOf i).toNat)
  case atStart => exact ⟨0, by omega, rfl, rfl, fun j hj => absurd hj (by omega)⟩
  case round =>
    obtain ⟨k, hk, rfl, rfl, hlt⟩ := hrel
    have HL := Lib.hid hlt
    clear hlt
    have hp : 2 ^ k ≤ 2 ^ 62 := Nat.pow_le_pow_right (by decide) hk
    obtain ⟨p, hpp⟩ : ∃ p : Nat, 2 ^ k = p := ⟨_, rfl⟩
    rw [hpp] at hp
    have hp1 : 1 ≤ p := by rw [← hpp]; exact Nat.two_pow_pos k
    have hp2 : p ≤ 4611686018427387904 := hp
    clear hp
    rw [hpp]
    have HP := Lib.hid hpp
    clear hpp
    by_cases h62 : k < 62
    · by_cases hn : (p : Int) < n
      · have hp3 : p ≤ 2305843009213693952 := by
          have : 2 ^ k ≤ 2 ^ 61 := Nat.pow_le_pow_right (by decide) (by omega)
          rw [HP.out] at this
          simpa using this
        go_wp2
        go_round
        case rel => exact ⟨k + 1, by omega, by go_num, by rw [Nat.pow_succ, HP.out]; go_num, fun j hj => by
          rcases Nat.lt_or_ge j k with h | h
          · exact HL.out j h
          · have : j = k := by omega
            subst this
            have := HP.out
            rw [← this] at hn
            simpa using hn⟩
        case measure => simp [intOf]; omega
      · go_wp2
        go_ret
        refine ⟨?_, rfl⟩
        rw [refpow_eq n k hk (.inr (by rw [← HP.out] at hn; simpa using hn)) HL.out, HP.out]
        rfl
    · go_wp2
      go_ret
      refine ⟨?_, rfl⟩
      rw [refpow_eq n k hk (.inl (by omega)) HL.out, HP.out]
      rfl
end Go.Proofs.YtmfdobppihjjkaaDoor.wd
