/-
  The document's sketch (cortadoref11): Place by its contract.
-/
import Derived.Test.YthjbkabkoolfdaaDoorSkSk
namespace Go.Proofs.YthjbkabkoolfdaaDoor.sk
open Go.RowKit
open nb (Keep Nib ct cell_of frozen_of heap_set heap_set_other heap_old heap_next heap_lt getAt mayAdd addAt)
/-- the document's sketch as a value. -/
abbrev sv (v : Value) (n seed : Nat) : Value := .agg #[v, .int .i64 (n : Int), .int .u64 (seed : Int)]
theorem refplace_out (a : Option Addr) (k cap n seed : Nat) (hash row : Int) (hr : ¬ (0 ≤ row ∧ row < 4)) (w : World) : Calls Tryd.prog 39 #[sv (.slice a k cap) n seed, .int .u64 hash, .int .i64 row] w fun e w' => e = .returned (.int .i64 0) ∧ Below w.heap.size w w' := by
  have hB : Hid (∀ o, Below w.heap.size w (w.alloc o)) := fun o => (Below.refl _ _).alloc (Nat.le_refl _) o
  by_cases h0 : row < 0
  · have hd : decide (row < 0) = true := by simpa using h0
    clear hr
    go_enter Tryd.func39, Tryd.ntmps39
    go_wp2
    go_ret
    exact ⟨rfl, hB.out _⟩
  · have h1 : 3 < row := by omega
    have hd : decide (row < 0) = false := by simpa using h0
    clear hr
    go_enter Tryd.func39, Tryd.ntmps39
    go_wp2
    go_ret
    exact ⟨rfl, hB.out _⟩
theorem refplace_in (a : Option Addr) (k cap n seed x i : Nat) (hn : 0 < n) (hl : n ≤ 4096) (hx : x < 18446744073709551616) (hi : i < 4) (w : World) : Calls Tryd.prog 39 #[sv (.slice a k cap) n seed, .int .u64 (x : Int), .int .i64 (i : Int)] w fun e w' => e = .returned (.int .i64 (plN seed n x i : Int)) ∧ Below w.heap.size w w' := by
  have hd : decide ((i : Int) < 0) = false := by simp
  have hd1 : ¬ (3 : Int) < (i : Int) := by omega
  obtain ⟨a', ha, ha'⟩ : ∃ a : Nat, (seed + i + 1) % 18446744073709551616 = a ∧ IntKind.u64.wrap (IntKind.u64.wrap ((seed : Int) + (i : Int)) + 1) = (a : Int) := ⟨_, rfl, by simp only [IntKind.wrap_u64]; omega⟩
  have hal : a' < 18446744073709551616 := by omega
  have X1 := Lib.hid (refmix_f a' hal)
  have hal2 := mixF_lt a'
  have hx2 : bits BinOp.xor IntKind.u64 (x : Int) (mixF a' : Int) = ((x ^^^ mixF a' : Nat) : Int) := u64_xor_nat _ _ hx hal2
  have hx3 := xor_lt x (mixF a') hx hal2
  have X2 := Lib.hid (refmix_f _ hx3)
  have hm2 := mixF_lt (x ^^^ mixF a')
  have E := Lib.hid (plN_eq seed n x i)
  rw [ha] at E
  have HA := Lib.hid ha
  have hB : Hid (∀ o q, Below w.heap.size w ((w.alloc o).drewN q)) := fun o q => ((Below.refl _ _).alloc (Nat.le_refl _) o).trans ⟨rfl, rfl, rfl, Nat.le_refl _, fun _ _ => rfl⟩
  clear ha
  generalize plN seed n x i = p at *
  generalize x ^^^ mixF a' = y at *
  generalize mixF y = z at *
  generalize mixF a' = m at *
  have hz : wrap64 ((z : Int) % (n : Int)) = (p : Int) := by
    have e1 : (z : Int) % (n : Int) = ((z % n : Nat) : Int) := by simp
    have e2 := Nat.mod_lt z hn
    rw [E.out, e1]
    unfold wrap64
    omega
  clear E
  go_enter Tryd.func39, Tryd.ntmps39
  go_wp2_with fail
  refine (X1.out _).mono ?_
  rintro e w1 ⟨rfl, e1⟩
  subst e1
  go_wp2_with fail
  go_quiet ((go_at_call 53; exact Calls.quiet_of_same (X2.out _)))
  go_wp2
  go_ret
  exact ⟨congrArg (fun t => Ending.returned (Value.int IntKind.i64 t)) hz, hB.out _ _⟩
end Go.Proofs.YthjbkabkoolfdaaDoor.sk
