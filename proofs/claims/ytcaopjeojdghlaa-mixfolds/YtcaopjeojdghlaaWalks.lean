/-
  MixFolds and MixInverts, walked call by call: each returns true for every input, and the world stays as it was.
-/
import Derived.Test.YtcaopjeojdghlaaMix
namespace Go.Proofs.Ytcaopjeojdghlaa
open Go.ChangeShapes Go.WideShapes Go.ChangeAt Go.RowKit
theorem u64_nat {n : Int} (h : (Lit.int .u64 n).wf = true) : ∃ m : Nat, n = (m : Int) ∧ m < 18446744073709551616 := by
  have := Go.bounds_u64 h
  exact ⟨n.toNat, by omega, by omega⟩
theorem ret_nat {a b : Nat} (h : a = b) : Ending.returned (.int .u64 (a : Int)) = .returned (.int .u64 (b : Int)) := by rw [h]
theorem fold_12 (w : World) : Calls Try.prog 5 #[.int .u64 12, .int .i64 2] w fun e w' => e = .returned (.int .u64 15) ∧ w = w' :=
  (fold_any 12 2 (by decide) w).mono fun e w' ⟨he, hw⟩ => ⟨by rw [he]; exact ret_nat (b := 15) (by decide), hw⟩
theorem inverse_3 (w : World) : Calls Try.prog 9 #[.int .u64 3] w fun e w' => e = .returned (.int .u64 12297829382473034411) ∧ w = w' :=
  (inverse_any 3 (by decide) w).mono fun e w' ⟨he, hw⟩ => ⟨by rw [he]; exact ret_nat (b := 12297829382473034411) (by decide), hw⟩
theorem awake_any (w : World) : Calls Try.prog 8 #[] w fun e w' => e = .returned (.bool true) ∧ w = w' := by
  go_enter Try.func8, Try.ntmps8
  go_wp2_with fail
  refine (fold_12 _).mono ?_
  rintro e w1 ⟨rfl, rfl⟩
  go_wp2_with fail
  refine (inverse_3 _).mono ?_
  rintro e w1 ⟨rfl, rfl⟩
  go_wp2
  go_ret
  exact ⟨rfl, rfl⟩
theorem folds_walk (x : Nat) (k : Int) (hx : x < 18446744073709551616) (w : World) :
    Calls Try.prog 3 #[.int .u64 x, .int .i64 k] w fun e w' => e = .returned (.bool true) ∧ w = w' := by
  have h1 := foZ_unZ x k hx
  have h2 := unZ_foZ x k hx
  have H1 := Lib.hid h1
  have H2 := Lib.hid h2
  clear h1 h2
  go_enter Try.func3, Try.ntmps3
  go_wp2_with fail
  refine (fold_any _ _ hx _).mono ?_
  rintro e w1 ⟨rfl, rfl⟩
  go_wp2_with fail
  refine (reffold_any _ _ hx _).mono ?_
  rintro e w1 ⟨rfl, rfl⟩
  go_wp2_with fail
  refine (unfold_any _ _ hx _).mono ?_
  rintro e w1 ⟨rfl, rfl⟩
  go_wp2_with fail
  refine (reffold_any _ _ (unZ_lt x k hx) _).mono ?_
  rintro e w1 ⟨rfl, rfl⟩
  rw [H1.out]
  go_wp2_with fail
  refine (reffold_any _ _ hx _).mono ?_
  rintro e w1 ⟨rfl, rfl⟩
  go_wp2_with fail
  refine (unfold_any _ _ (foZ_lt x k hx) _).mono ?_
  rintro e w1 ⟨rfl, rfl⟩
  rw [H2.out]
  go_wp2_with fail
  refine (awake_any _).mono ?_
  rintro e w1 ⟨rfl, rfl⟩
  go_wp2
  go_ret
  exact ⟨rfl, rfl⟩
theorem mul_expr (a b : Nat) : IntKind.u64.wrap ((a : Int) * b) = ((a * b % M : Nat) : Int) := by rw [IntKind.wrap_u64]; simp [M]
theorem inverts_walk (a : Nat) (ha : a < 18446744073709551616) (w : World) :
    Calls Try.prog 4 #[.int .u64 a] w fun e w' => e = .returned (.bool true) ∧ w = w' := by
  by_cases h0 : a % 2 = 0
  · have h0' : (a : Int) % 2 = 0 := by omega
    have hi : invN a = 0 := by unfold invN; rw [if_pos h0]
    have HI := Lib.hid hi
    clear h0 hi
    go_enter Try.func4, Try.ntmps4
    go_wp2_with fail
    refine (inverse_any _ ha _).mono ?_
    rintro e w1 ⟨rfl, rfl⟩
    rw [HI.out]
    go_wp2_with fail
    refine (awake_any _).mono ?_
    rintro e w1 ⟨rfl, rfl⟩
    go_wp2
    go_ret
    exact ⟨rfl, rfl⟩
  · have h0' : (a : Int) % 2 = 1 := by omega
    have hm : IntKind.u64.wrap ((a : Int) * (invN a : Nat)) = 1 := by rw [mul_expr, mul_inv a (by omega)]; rfl
    have hi := inv_inv a (by omega) ha
    have hl := invN_lt a ha
    have HI := Lib.hid hi
    clear h0 hi
    go_enter Try.func4, Try.ntmps4
    go_wp2_with fail
    refine (inverse_any _ ha _).mono ?_
    rintro e w1 ⟨rfl, rfl⟩
    go_wp2_with fail
    refine (inverse_any _ ha _).mono ?_
    rintro e w1 ⟨rfl, rfl⟩
    go_wp2_with fail
    refine (inverse_any _ hl _).mono ?_
    rintro e w1 ⟨rfl, rfl⟩
    rw [HI.out]
    go_wp2_with fail
    refine (awake_any _).mono ?_
    rintro e w1 ⟨rfl, rfl⟩
    go_wp2
    go_ret
    exact ⟨rfl, rfl⟩
end Go.Proofs.Ytcaopjeojdghlaa
