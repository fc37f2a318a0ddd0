/-
  Fold, Unfold and Inverse of package mix, and Fold of its reference, by their contracts: what each returns, for every input of its types; the world stays as it was.
-/
import Derived.Test.YtmjcdondogpceaaDoorRows
import Derived.Test.YtmjcdondogpceaaDoorMxMath
import Derived.WalkKit
import Derived.ProofKit
import Derived.OpenShut
import Derived.Lib.Hide
import Derived.Laws.Bits64
import Derived.Lib.Walk
import Derived.Lib.Small
import Derived.Lib.BitFns
namespace Go.Proofs.YtmjcdondogpceaaDoor.mx
open Go.ChangeShapes Go.WideShapes Go.ChangeAt Go.RowKit
theorem fo_expr (x u : Nat) (hx : x < 18446744073709551616) : bits BinOp.xor IntKind.u64 (x : Int) ((x : Int) / 2 ^ u) = ((fo u x : Nat) : Int) := by
  have e2 : ((x : Int) / 2 ^ u) = ((x / 2 ^ u : Nat) : Int) := by simp
  rw [e2, u64_xor_nat _ _ hx (Nat.lt_of_le_of_lt (Nat.div_le_self _ _) hx)]
  rfl
theorem fold_any (x : Nat) (k : Int) (hx : x < 18446744073709551616) (w : World) :
    Calls Tryd.prog 49 #[.int .u64 x, .int .i64 k] w fun e w' => e = .returned (.int .u64 (foZ x k : Nat)) ∧ w = w' := by
  by_cases h1 : 1 ≤ k
  · by_cases h2 : k < 64
    · obtain ⟨u, rfl⟩ : ∃ u : Nat, k = (u : Int) := ⟨k.toNat, by omega⟩
      go_enter Tryd.func49, Tryd.ntmps49
      go_wp2
      go_ret
      refine ⟨congrArg Ending.returned (congrArg (Value.int IntKind.u64) ?_), rfl⟩
      unfold foZ
      rw [if_pos (by omega), fo_expr x u hx]
      rfl
    · go_enter Tryd.func49, Tryd.ntmps49
      go_wp2
      go_ret
      refine ⟨congrArg Ending.returned (congrArg (Value.int IntKind.u64) ?_), rfl⟩
      unfold foZ
      rw [if_neg (by omega)]
  · go_enter Tryd.func49, Tryd.ntmps49
    go_wp2
    go_ret
    refine ⟨congrArg Ending.returned (congrArg (Value.int IntKind.u64) ?_), rfl⟩
    unfold foZ
    rw [if_neg (by omega)]
theorem reffold_any (x : Nat) (k : Int) (hx : x < 18446744073709551616) (w : World) :
    Calls Tryd.prog 40 #[.int .u64 x, .int .i64 k] w fun e w' => e = .returned (.int .u64 (foZ x k : Nat)) ∧ w = w' := by
  by_cases h1 : k < 1
  · go_enter Tryd.func40, Tryd.ntmps40
    go_wp2
    go_ret
    refine ⟨congrArg Ending.returned (congrArg (Value.int IntKind.u64) ?_), rfl⟩
    unfold foZ
    rw [if_neg (by omega)]
  · by_cases h2 : 63 < k
    · go_enter Tryd.func40, Tryd.ntmps40
      go_wp2
      go_ret
      refine ⟨congrArg Ending.returned (congrArg (Value.int IntKind.u64) ?_), rfl⟩
      unfold foZ
      rw [if_neg (by omega)]
    · obtain ⟨u, rfl⟩ : ∃ u : Nat, k = (u : Int) := ⟨k.toNat, by omega⟩
      go_enter Tryd.func40, Tryd.ntmps40
      go_wp2
      go_loop [5, 6] (fun y i => ∃ j : Nat, j ≤ u ∧ i = .int .i64 j ∧ y = .int .u64 ((x / 2 ^ j : Nat) : Int)) (fun _ i => u - (intOf i).toNat)
      case atStart => exact ⟨0, by omega, rfl, by simp⟩
      case round =>
        obtain ⟨j, hj, rfl, rfl⟩ := hrel
        have hy : x / 2 ^ j < 18446744073709551616 := Nat.lt_of_le_of_lt (Nat.div_le_self _ _) hx
        have hd := div_two x j
        have HD := Lib.hid hd
        clear hd
        by_cases hlt : j < u
        · generalize hy' : x / 2 ^ j = y at *
          have HY := Lib.hid hy'
          clear hy'
          go_wp2
          go_round
          case rel => exact ⟨j + 1, by omega, by go_num, by rw [← HD.out]; simp⟩
          case measure => simp [intOf]; omega
        · obtain rfl : j = u := by omega
          go_wp2
          go_ret
          refine ⟨congrArg Ending.returned (congrArg (Value.int IntKind.u64) ?_), rfl⟩
          unfold foZ
          rw [if_pos (by omega)]
          have := fo_expr x j hx
          simpa using this
theorem unfold_any (x : Nat) (k : Int) (hx : x < 18446744073709551616) (w : World) :
    Calls Tryd.prog 50 #[.int .u64 x, .int .i64 k] w fun e w' => e = .returned (.int .u64 (unZ x k : Nat)) ∧ w = w' := by
  by_cases h1 : 1 ≤ k
  · by_cases h2 : k < 64
    · obtain ⟨u, rfl⟩ : ∃ u : Nat, k = (u : Int) := ⟨k.toNat, by omega⟩
      go_enter Tryd.func50, Tryd.ntmps50
      go_wp2
      go_loop [0, 1] (fun y i => ∃ v j : Nat, v < 18446744073709551616 ∧ 1 ≤ j ∧ j ≤ 126 ∧ fo u v = fo j x ∧ i = .int .i64 j ∧ y = .int .u64 (v : Int)) (fun _ i => 126 - (intOf i).toNat)
      case atStart => exact ⟨x, u, hx, by omega, by omega, rfl, rfl, rfl⟩
      case round =>
        obtain ⟨v, j, hv, hj, hj', hf, rfl, rfl⟩ := hrel
        have HF := Lib.hid hf
        clear hf
        have he := fo_expr v j hv
        by_cases hlt : j < 64
        · go_wp2
          go_round
          case rel => exact ⟨fo j v, 2 * j, fo_lt j v hv, by omega, by omega, by rw [fo_comm, HF.out, fo_two], by go_num, rfl⟩
          case measure => simp [intOf]; omega
        · clear he
          go_wp2
          go_ret
          refine ⟨congrArg Ending.returned (congrArg (Value.int IntKind.u64) ?_), rfl⟩
          unfold unZ
          rw [if_pos (by omega)]
          have := HF.out
          rw [fo_big j x (by omega) hx] at this
          have := un_of u x v (by omega) hv this
          rw [this]
          rfl
    · go_enter Tryd.func50, Tryd.ntmps50
      go_wp2
      go_ret
      refine ⟨congrArg Ending.returned (congrArg (Value.int IntKind.u64) ?_), rfl⟩
      unfold unZ
      rw [if_neg (by omega)]
  · go_enter Tryd.func50, Tryd.ntmps50
    go_wp2
    go_ret
    refine ⟨congrArg Ending.returned (congrArg (Value.int IntKind.u64) ?_), rfl⟩
    unfold unZ
    rw [if_neg (by omega)]
theorem nx_expr (a v : Nat) : IntKind.u64.wrap ((v : Int) * IntKind.u64.wrap (2 - IntKind.u64.wrap ((a : Int) * v))) = ((nx a v : Nat) : Int) := by
  have e1 : IntKind.u64.wrap ((a : Int) * v) = ((a * v % M : Nat) : Int) := by rw [IntKind.wrap_u64]; simp [M]
  have hl : a * v % M < M := Nat.mod_lt _ (by decide)
  rw [e1]
  unfold nx
  generalize a * v % M = c at *
  have e2 : IntKind.u64.wrap (2 - (c : Int)) = (((M + 2 - c) % M : Nat) : Int) := by rw [IntKind.wrap_u64]; unfold M at *; omega
  rw [e2, IntKind.wrap_u64]
  generalize (M + 2 - c) % M = d
  simp [M]
theorem inverse_any (a : Nat) (ha : a < 18446744073709551616) (w : World) :
    Calls Tryd.prog 51 #[.int .u64 a] w fun e w' => e = .returned (.int .u64 (invN a : Nat)) ∧ w = w' := by
  by_cases h0 : a % 2 = 0
  · have h0' : (a : Int) % 2 = 0 := by omega
    have H := Lib.hid h0
    clear h0
    go_enter Tryd.func51, Tryd.ntmps51
    go_wp2
    go_ret
    refine ⟨congrArg Ending.returned (congrArg (Value.int IntKind.u64) ?_), rfl⟩
    unfold invN
    rw [if_pos H.out]
    rfl
  · have h0' : (a : Int) % 2 = 1 := by omega
    have H := Lib.hid h0
    clear h0
    go_enter Tryd.func51, Tryd.ntmps51
    go_wp2
    go_loop [3, 4] (fun v r => ∃ j t : Nat, j ≤ 5 ∧ t = 3 * 2 ^ j ∧ r = .int .i64 t ∧ v = .int .u64 (nxi a j : Nat)) (fun _ r => 96 - (intOf r).toNat)
    case atStart => exact ⟨0, 3, by omega, rfl, rfl, rfl⟩
    case round =>
      obtain ⟨j, t, hj, ht, rfl, rfl⟩ := hrel
      have hb : 3 ≤ t ∧ t ≤ 96 ∧ (j < 5 → t < 64) ∧ (j = 5 → t = 96) := by
        subst ht
        rcases (show j = 0 ∨ j = 1 ∨ j = 2 ∨ j = 3 ∨ j = 4 ∨ j = 5 from by omega) with h | h | h | h | h | h <;> subst h <;> decide
      obtain ⟨hb1, hb2, hb3, hb4⟩ := hb
      have HT := Lib.hid ht
      clear ht
      by_cases hlt : j < 5
      · have ht64 := hb3 hlt
        clear hb3 hb4
        have hv := nxi_lt a j ha
        have he := nx_expr a (nxi a j)
        generalize hn : nxi a j = v at *
        have HN := Lib.hid hn
        clear hn
        go_wp2
        go_round
        case rel => exact ⟨j + 1, 2 * t, by omega, by rw [HT.out, Nat.pow_succ]; omega, by go_num, by show _ = Value.int .u64 ((nx a (nxi a j) : Nat) : Int); rw [HN.out]⟩
        case measure => simp [intOf]; omega
      · obtain rfl : j = 5 := by omega
        obtain rfl := hb4 rfl
        clear hb3 hb4
        go_wp2
        go_ret
        refine ⟨congrArg Ending.returned (congrArg (Value.int IntKind.u64) ?_), rfl⟩
        unfold invN
        rw [if_neg H.out]
end Go.Proofs.YtmjcdondogpceaaDoor.mx
