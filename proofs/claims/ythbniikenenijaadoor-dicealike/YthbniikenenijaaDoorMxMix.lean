/-
  Fold, Unfold and Inverse of package mix, and Fold of its reference, by their contracts: what each returns, for every input of its types; the world stays as it was.
-/
import Derived.Test.YthbniikenenijaaDoorRows
import Derived.Test.YthbniikenenijaaDoorMxMath
import Derived.WalkKit
import Derived.ProofKit
import Derived.OpenShut
import Derived.Lib.Hide
import Derived.Laws.Bits64
import Derived.Lib.Walk
import Derived.Lib.Small
import Derived.Lib.BitFns
namespace Go.Proofs.YthbniikenenijaaDoor.mx
open Go.ChangeShapes Go.WideShapes Go.ChangeAt Go.RowKit
theorem fo_expr (x u : Nat) (hx : x < 18446744073709551616) : bits BinOp.xor IntKind.u64 (x : Int) ((x : Int) / 2 ^ u) = ((fo u x : Nat) : Int) := by
  have e2 : ((x : Int) / 2 ^ u) = ((x / 2 ^ u : Nat) : Int) := by simp
  rw [e2, u64_xor_nat _ _ hx (Nat.lt_of_le_of_lt (Nat.div_le_self _ _) hx)]
  rfl
theorem fold_any (x : Nat) (k : Int) (hx : x < 18446744073709551616) (w : World) :
    Calls Tryd.prog 22 #[.int .u64 x, .int .i64 k] w fun e w' => e = .returned (.int .u64 (foZ x k : Nat)) ∧ w = w' := by
  by_cases h1 : 1 ≤ k
  · by_cases h2 : k < 64
    · obtain ⟨u, rfl⟩ : ∃ u : Nat, k = (u : Int) := ⟨k.toNat, by omega⟩
      go_enter Tryd.func22, Tryd.ntmps22
      go_wp2
      go_ret
      refine ⟨congrArg Ending.returned (congrArg (Value.int IntKind.u64) ?_), rfl⟩
      unfold foZ
      rw [if_pos (by omega), fo_expr x u hx]
      rfl
    · go_enter Tryd.func22, Tryd.ntmps22
      go_wp2
      go_ret
      refine ⟨congrArg Ending.returned (congrArg (Value.int IntKind.u64) ?_), rfl⟩
      unfold foZ
      rw [if_neg (by omega)]
  · go_enter Tryd.func22, Tryd.ntmps22
    go_wp2
    go_ret
    refine ⟨congrArg Ending.returned (congrArg (Value.int IntKind.u64) ?_), rfl⟩
    unfold foZ
    rw [if_neg (by omega)]
theorem reffold_any (x : Nat) (k : Int) (hx : x < 18446744073709551616) (w : World) :
    Calls Tryd.prog 20 #[.int .u64 x, .int .i64 k] w fun e w' => e = .returned (.int .u64 (foZ x k : Nat)) ∧ w = w' := by
  by_cases h1 : k < 1
  · go_enter Tryd.func20, Tryd.ntmps20
    go_wp2
    go_ret
    refine ⟨congrArg Ending.returned (congrArg (Value.int IntKind.u64) ?_), rfl⟩
    unfold foZ
    rw [if_neg (by omega)]
  · by_cases h2 : 63 < k
    · go_enter Tryd.func20, Tryd.ntmps20
      go_wp2
      go_ret
      refine ⟨congrArg Ending.returned (congrArg (Value.int IntKind.u64) ?_), rfl⟩
      unfold foZ
      rw [if_neg (by omega)]
    · obtain ⟨u, rfl⟩ : ∃ u : Nat, k = (u : Int) := ⟨k.toNat, by omega⟩
      go_enter Tryd.func20, Tryd.ntmps20
      go_wp2
      go_loop [5, 6] (fun y i => ∃ j : Nat, j ≤ u ∧ i = .int .i64 j ∧ y = .int .u64 ((x / 2 ^ j : Nat) : Int)) (fun _ i => u - (intOf i).toNat)
      case atStart => exact ⟨0, by omega, rfl, by simp⟩
      case round =>
        obtain ⟨j, hj, rfl, rfl⟩ := hrel
        have hy : x / 2 ^ j < 18446744073709551616 := Nat.lt_of_le_of_lt (Nat.div_le_self _ _) hx
        have hd := div_two x j
        have HD := Lib.hid hd
        clear hd
        by_cases hlt : j < u
        · generalize hy' : x / 2 ^ j = y at *
          have HY := Lib.hid hy'
          clear hy'
          go_wp2
          go_round
          case rel => exact ⟨j + 1, by omega, by go_num, by rw [← HD.out]; simp⟩
          case measure => simp [intOf]; omega
        · obtain rfl : j = u := by omega
          go_wp2
          go_ret
          refine ⟨congrArg Ending.returned (congrArg (Value.int IntKind.u64) ?_), rfl⟩
          unfold foZ
          rw [if_pos (by omega)]
          have := fo_expr x j hx
          simpa using this
end Go.Proofs.YthbniikenenijaaDoor.mx
