/-
  The steps of a row of package mix's table, done and undone ('do' and 'undo'), by their contracts: what each returns where the table's cells hold that row; all that was there stays as it was (a call lays new memory).
-/
import Derived.Test.YthbniikenenijaaDoorMxMix
import Derived.IntWalk
import Derived.Deep.QuietTactic
import Derived.BigQuiet
namespace Go.Proofs.YthbniikenenijaaDoor.mx
open Go.ChangeShapes Go.WideShapes Go.ChangeAt Go.RowKit
theorem mul_expr (a b : Nat) : IntKind.u64.wrap ((a : Int) * b) = ((a * b % M : Nat) : Int) := by rw [IntKind.wrap_u64]; simp [M]
theorem fold_st (k x c : Nat) (hk : 1 ≤ k) (hk' : k < 64) : IntKind.u64.wrap (((foZ x (k : Int) : Nat) : Int) * c) = ((st k c x : Nat) : Int) := by
  unfold foZ st
  rw [if_pos (by omega), mul_expr]
  rfl
theorem idx0 (w : World) (v0 v1 v2 v3 v4 v5 : Value) : (Instr.index 45 (.agg #[v0, v1, v2, v3, v4, v5]) (.int .i64 0)).run Tryd.prog w = .ok (.agg #[v0, v1]) w := by kernel_rfl
theorem idx1 (w : World) (v0 v1 v2 v3 v4 v5 : Value) : (Instr.index 45 (.agg #[v0, v1, v2, v3, v4, v5]) (.int .i64 1)).run Tryd.prog w = .ok (.agg #[v2, v3]) w := by kernel_rfl
theorem idx2 (w : World) (v0 v1 v2 v3 v4 v5 : Value) : (Instr.index 45 (.agg #[v0, v1, v2, v3, v4, v5]) (.int .i64 2)).run Tryd.prog w = .ok (.agg #[v4, v5]) w := by kernel_rfl
theorem quiet_still {P : Program} {f : FuncId} {args : Array Value} {w : World} {n : Nat} {v : Value}
    (h : Calls P f args (w.drewN n) fun e w' => e = .returned v ∧ w.drewN n = w') : Calls P f args (w.drewN n) fun e w'' => e = .returned v ∧ ∃ m, w'' = w.drewN m :=
  h.mono fun _ _ ⟨he, hm⟩ => ⟨he, n, hm.symm⟩
theorem below_more {b : Nat} {w wr : World} (h : Below b w wr) (hn : b ≤ wr.heap.size) (o : Obj) (n : Nat) : Below b w ((wr.alloc o).drewN n) :=
  (h.alloc hn o).trans ⟨rfl, rfl, rfl, Nat.le_refl _, fun _ _ => rfl⟩
theorem Below.size' {w wr : World} (h : Below w.heap.size w wr) : w.heap.size ≤ wr.heap.size := h.size
def dos (a b c p q r x : Nat) : Nat → Nat
  | 0 => x
  | 1 => st a p x
  | 2 => st b q (st a p x)
  | _ => st c r (st b q (st a p x))
theorem dos_lt (a b c p q r x j : Nat) (hx : x < 18446744073709551616) : dos a b c p q r x j < 18446744073709551616 := by
  match j with
  | 0 => exact hx
  | 1 => exact st_lt _ _ _
  | 2 => exact st_lt _ _ _
  | _ + 3 => exact st_lt _ _ _
set_option maxHeartbeats 800000 in
set_option maxRecDepth 100000 in
theorem do_0 (x : Nat) (hx : x < 18446744073709551616) (a b c p q r : Nat) (ha : 1 ≤ a ∧ a < 64) (hb : 1 ≤ b ∧ b < 64) (hc : 1 ≤ c ∧ c < 64) (w : World) (h0 : w.cell? ⟨0, 0, none⟩ = some (.int .i64 a)) (h1 : w.cell? ⟨0, 1, none⟩ = some (.int .u64 p)) (h2 : w.cell? ⟨0, 2, none⟩ = some (.int .i64 b)) (h3 : w.cell? ⟨0, 3, none⟩ = some (.int .u64 q)) (h4 : w.cell? ⟨0, 4, none⟩ = some (.int .i64 c)) (h5 : w.cell? ⟨0, 5, none⟩ = some (.int .u64 r)) :
    Calls Tryd.prog 21 #[.int .i64 0, .int .u64 x] w fun e w' => e = .returned (.int .u64 (st c r (st b q (st a p x)) : Nat)) ∧ Below w.heap.size w w' := by
  go_enter Tryd.func21, Tryd.ntmps21
  go_wp2
  go_loopw [1, 10] (fun v i wr => ∃ j : Nat, j ≤ 3 ∧ i = .int .i64 j ∧ v = .int .u64 (dos a b c p q r x j : Nat) ∧ Below w.heap.size w wr) (fun _ i _ => 3 - (intOf i).toNat)
  case atStart => exact ⟨0, by omega, rfl, rfl, Below.refl _ _⟩
  case round =>
    obtain ⟨j, hj, rfl, rfl, hnx⟩ := hrel
    have hl := dos_lt a b c p q r x j hx
    have hz := hnx.size
    rcases (show j = 0 ∨ j = 1 ∨ j = 2 ∨ j = 3 from by omega) with h | h | h | h
    · subst h
      have hs := fold_st a (dos a b c p q r x 0) p ha.1 ha.2
      generalize hd : dos a b c p q r x 0 = d at *
      have HD := Lib.hid hd
      clear hd
      have hi := idx0
      go_wp2
      go_quiet ((go_at_call 22; exact quiet_still (fold_any _ _ hl _)))
      go_wp2
      go_roundw
      case rel => exact ⟨1, by omega, rfl, by rw [← HD.out]; rfl, below_more hnx hz _ _⟩
      case measure => simp [intOf]
    · subst h
      have hs := fold_st b (dos a b c p q r x 1) q hb.1 hb.2
      generalize hd : dos a b c p q r x 1 = d at *
      have HD := Lib.hid hd
      clear hd
      have hi := idx1
      go_wp2
      go_quiet ((go_at_call 22; exact quiet_still (fold_any _ _ hl _)))
      go_wp2
      go_roundw
      case rel => exact ⟨2, by omega, rfl, by rw [← HD.out]; rfl, below_more hnx hz _ _⟩
      case measure => simp [intOf]
    · subst h
      have hs := fold_st c (dos a b c p q r x 2) r hc.1 hc.2
      generalize hd : dos a b c p q r x 2 = d at *
      have HD := Lib.hid hd
      clear hd
      have hi := idx2
      go_wp2
      go_quiet ((go_at_call 22; exact quiet_still (fold_any _ _ hl _)))
      go_wp2
      go_roundw
      case rel => exact ⟨3, by omega, rfl, by rw [← HD.out]; rfl, below_more hnx hz _ _⟩
      case measure => simp [intOf]
    · subst h
      go_wp2
      go_ret
      exact ⟨rfl, hnx⟩
end Go.Proofs.YthbniikenenijaaDoor.mx
