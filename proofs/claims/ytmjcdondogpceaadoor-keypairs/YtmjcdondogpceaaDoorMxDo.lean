/-
  The steps of a row of package mix's table, done and undone ('do' and 'undo'), by their contracts: what each returns where the table's cells hold that row; all that was there stays as it was (a call lays new memory).
-/
import Derived.Test.YtmjcdondogpceaaDoorMxMix
import Derived.IntWalk
import Derived.Deep.QuietTactic
import Derived.BigQuiet
namespace Go.Proofs.YtmjcdondogpceaaDoor.mx
open Go.ChangeShapes Go.WideShapes Go.ChangeAt Go.RowKit
theorem mul_expr (a b : Nat) : IntKind.u64.wrap ((a : Int) * b) = ((a * b % M : Nat) : Int) := by rw [IntKind.wrap_u64]; simp [M]
theorem fold_st (k x c : Nat) (hk : 1 ≤ k) (hk' : k < 64) : IntKind.u64.wrap (((foZ x (k : Int) : Nat) : Int) * c) = ((st k c x : Nat) : Int) := by
  unfold foZ st
  rw [if_pos (by omega), mul_expr]
  rfl
theorem unfold_bk (k x c : Nat) (hk : 1 ≤ k) (hk' : k < 64) : unZ (x * invN c % M) (k : Int) = bk k c x := by
  unfold unZ bk
  rw [if_pos (by omega)]
  rfl
theorem idx0 (w : World) (v0 v1 v2 v3 v4 v5 : Value) : (Instr.index 63 (.agg #[v0, v1, v2, v3, v4, v5]) (.int .i64 0)).run Tryd.prog w = .ok (.agg #[v0, v1]) w := by kernel_rfl
theorem idx1 (w : World) (v0 v1 v2 v3 v4 v5 : Value) : (Instr.index 63 (.agg #[v0, v1, v2, v3, v4, v5]) (.int .i64 1)).run Tryd.prog w = .ok (.agg #[v2, v3]) w := by kernel_rfl
theorem idx2 (w : World) (v0 v1 v2 v3 v4 v5 : Value) : (Instr.index 63 (.agg #[v0, v1, v2, v3, v4, v5]) (.int .i64 2)).run Tryd.prog w = .ok (.agg #[v4, v5]) w := by kernel_rfl
theorem quiet_still {P : Program} {f : FuncId} {args : Array Value} {w : World} {n : Nat} {v : Value}
    (h : Calls P f args (w.drewN n) fun e w' => e = .returned v ∧ w.drewN n = w') : Calls P f args (w.drewN n) fun e w'' => e = .returned v ∧ ∃ m, w'' = w.drewN m :=
  h.mono fun _ _ ⟨he, hm⟩ => ⟨he, n, hm.symm⟩
theorem below_more {b : Nat} {w wr : World} (h : Below b w wr) (hn : b ≤ wr.heap.size) (o : Obj) (n : Nat) : Below b w ((wr.alloc o).drewN n) :=
  (h.alloc hn o).trans ⟨rfl, rfl, rfl, Nat.le_refl _, fun _ _ => rfl⟩
theorem Below.size' {w wr : World} (h : Below w.heap.size w wr) : w.heap.size ≤ wr.heap.size := h.size
def dos (a b c p q r x : Nat) : Nat → Nat
  | 0 => x
  | 1 => st a p x
  | 2 => st b q (st a p x)
  | _ => st c r (st b q (st a p x))
theorem dos_lt (a b c p q r x j : Nat) (hx : x < 18446744073709551616) : dos a b c p q r x j < 18446744073709551616 := by
  match j with
  | 0 => exact hx
  | 1 => exact st_lt _ _ _
  | 2 => exact st_lt _ _ _
  | _ + 3 => exact st_lt _ _ _
/-- what is left of the steps ahead of the j-th, undone. -/
def undos (a b c p q r x : Nat) : Nat → Nat
  | 3 => x
  | 2 => bk c r x
  | 1 => bk b q (bk c r x)
  | _ => bk a p (bk b q (bk c r x))
theorem undos_lt (a b c p q r x j : Nat) (hj : j ≤ 3) (hx : x < 18446744073709551616) : undos a b c p q r x j < 18446744073709551616 := by
  match j with
  | 0 => exact bk_lt _ _ _
  | 1 => exact bk_lt _ _ _
  | 2 => exact bk_lt _ _ _
  | 3 => exact hx
  | _ + 4 => omega
set_option maxHeartbeats 800000 in
set_option maxRecDepth 100000 in
theorem do_0 (x : Nat) (hx : x < 18446744073709551616) (a b c p q r : Nat) (ha : 1 ≤ a ∧ a < 64) (hb : 1 ≤ b ∧ b < 64) (hc : 1 ≤ c ∧ c < 64) (w : World) (h0 : w.cell? ⟨0, 0, none⟩ = some (.int .i64 a)) (h1 : w.cell? ⟨0, 1, none⟩ = some (.int .u64 p)) (h2 : w.cell? ⟨0, 2, none⟩ = some (.int .i64 b)) (h3 : w.cell? ⟨0, 3, none⟩ = some (.int .u64 q)) (h4 : w.cell? ⟨0, 4, none⟩ = some (.int .i64 c)) (h5 : w.cell? ⟨0, 5, none⟩ = some (.int .u64 r)) :
    Calls Tryd.prog 34 #[.int .i64 0, .int .u64 x] w fun e w' => e = .returned (.int .u64 (st c r (st b q (st a p x)) : Nat)) ∧ Below w.heap.size w w' := by
  go_enter Tryd.func34, Tryd.ntmps34
  go_wp2
  go_loopw [1, 10] (fun v i wr => ∃ j : Nat, j ≤ 3 ∧ i = .int .i64 j ∧ v = .int .u64 (dos a b c p q r x j : Nat) ∧ Below w.heap.size w wr) (fun _ i _ => 3 - (intOf i).toNat)
  case atStart => exact ⟨0, by omega, rfl, rfl, Below.refl _ _⟩
  case round =>
    obtain ⟨j, hj, rfl, rfl, hnx⟩ := hrel
    have hl := dos_lt a b c p q r x j hx
    have hz := hnx.size
    rcases (show j = 0 ∨ j = 1 ∨ j = 2 ∨ j = 3 from by omega) with h | h | h | h
    · subst h
      have hs := fold_st a (dos a b c p q r x 0) p ha.1 ha.2
      generalize hd : dos a b c p q r x 0 = d at *
      have HD := Lib.hid hd
      clear hd
      have hi := idx0
      go_wp2
      go_quiet ((go_at_call 49; exact quiet_still (fold_any _ _ hl _)))
      go_wp2
      go_roundw
      case rel => exact ⟨1, by omega, rfl, by rw [← HD.out]; rfl, below_more hnx hz _ _⟩
      case measure => simp [intOf]
    · subst h
      have hs := fold_st b (dos a b c p q r x 1) q hb.1 hb.2
      generalize hd : dos a b c p q r x 1 = d at *
      have HD := Lib.hid hd
      clear hd
      have hi := idx1
      go_wp2
      go_quiet ((go_at_call 49; exact quiet_still (fold_any _ _ hl _)))
      go_wp2
      go_roundw
      case rel => exact ⟨2, by omega, rfl, by rw [← HD.out]; rfl, below_more hnx hz _ _⟩
      case measure => simp [intOf]
    · subst h
      have hs := fold_st c (dos a b c p q r x 2) r hc.1 hc.2
      generalize hd : dos a b c p q r x 2 = d at *
      have HD := Lib.hid hd
      clear hd
      have hi := idx2
      go_wp2
      go_quiet ((go_at_call 49; exact quiet_still (fold_any _ _ hl _)))
      go_wp2
      go_roundw
      case rel => exact ⟨3, by omega, rfl, by rw [← HD.out]; rfl, below_more hnx hz _ _⟩
      case measure => simp [intOf]
    · subst h
      go_wp2
      go_ret
      exact ⟨rfl, hnx⟩
set_option maxHeartbeats 800000 in
set_option maxRecDepth 100000 in
theorem do_1 (x : Nat) (hx : x < 18446744073709551616) (a b c p q r : Nat) (ha : 1 ≤ a ∧ a < 64) (hb : 1 ≤ b ∧ b < 64) (hc : 1 ≤ c ∧ c < 64) (w : World) (h0 : w.cell? ⟨0, 6, none⟩ = some (.int .i64 a)) (h1 : w.cell? ⟨0, 7, none⟩ = some (.int .u64 p)) (h2 : w.cell? ⟨0, 8, none⟩ = some (.int .i64 b)) (h3 : w.cell? ⟨0, 9, none⟩ = some (.int .u64 q)) (h4 : w.cell? ⟨0, 10, none⟩ = some (.int .i64 c)) (h5 : w.cell? ⟨0, 11, none⟩ = some (.int .u64 r)) :
    Calls Tryd.prog 34 #[.int .i64 1, .int .u64 x] w fun e w' => e = .returned (.int .u64 (st c r (st b q (st a p x)) : Nat)) ∧ Below w.heap.size w w' := by
  go_enter Tryd.func34, Tryd.ntmps34
  go_wp2
  go_loopw [1, 10] (fun v i wr => ∃ j : Nat, j ≤ 3 ∧ i = .int .i64 j ∧ v = .int .u64 (dos a b c p q r x j : Nat) ∧ Below w.heap.size w wr) (fun _ i _ => 3 - (intOf i).toNat)
  case atStart => exact ⟨0, by omega, rfl, rfl, Below.refl _ _⟩
  case round =>
    obtain ⟨j, hj, rfl, rfl, hnx⟩ := hrel
    have hl := dos_lt a b c p q r x j hx
    have hz := hnx.size
    rcases (show j = 0 ∨ j = 1 ∨ j = 2 ∨ j = 3 from by omega) with h | h | h | h
    · subst h
      have hs := fold_st a (dos a b c p q r x 0) p ha.1 ha.2
      generalize hd : dos a b c p q r x 0 = d at *
      have HD := Lib.hid hd
      clear hd
      have hi := idx0
      go_wp2
      go_quiet ((go_at_call 49; exact quiet_still (fold_any _ _ hl _)))
      go_wp2
      go_roundw
      case rel => exact ⟨1, by omega, rfl, by rw [← HD.out]; rfl, below_more hnx hz _ _⟩
      case measure => simp [intOf]
    · subst h
      have hs := fold_st b (dos a b c p q r x 1) q hb.1 hb.2
      generalize hd : dos a b c p q r x 1 = d at *
      have HD := Lib.hid hd
      clear hd
      have hi := idx1
      go_wp2
      go_quiet ((go_at_call 49; exact quiet_still (fold_any _ _ hl _)))
      go_wp2
      go_roundw
      case rel => exact ⟨2, by omega, rfl, by rw [← HD.out]; rfl, below_more hnx hz _ _⟩
      case measure => simp [intOf]
    · subst h
      have hs := fold_st c (dos a b c p q r x 2) r hc.1 hc.2
      generalize hd : dos a b c p q r x 2 = d at *
      have HD := Lib.hid hd
      clear hd
      have hi := idx2
      go_wp2
      go_quiet ((go_at_call 49; exact quiet_still (fold_any _ _ hl _)))
      go_wp2
      go_roundw
      case rel => exact ⟨3, by omega, rfl, by rw [← HD.out]; rfl, below_more hnx hz _ _⟩
      case measure => simp [intOf]
    · subst h
      go_wp2
      go_ret
      exact ⟨rfl, hnx⟩
set_option maxHeartbeats 800000 in
set_option maxRecDepth 100000 in
theorem undo_0 (x : Nat) (hx : x < 18446744073709551616) (a b c p q r : Nat) (ha : 1 ≤ a ∧ a < 64) (hb : 1 ≤ b ∧ b < 64) (hc : 1 ≤ c ∧ c < 64) (hp : p < 18446744073709551616) (hq : q < 18446744073709551616) (hr : r < 18446744073709551616) (w : World) (h0 : w.cell? ⟨0, 0, none⟩ = some (.int .i64 a)) (h1 : w.cell? ⟨0, 1, none⟩ = some (.int .u64 p)) (h2 : w.cell? ⟨0, 2, none⟩ = some (.int .i64 b)) (h3 : w.cell? ⟨0, 3, none⟩ = some (.int .u64 q)) (h4 : w.cell? ⟨0, 4, none⟩ = some (.int .i64 c)) (h5 : w.cell? ⟨0, 5, none⟩ = some (.int .u64 r)) (h6 : 0 < w.heap.size) :
    Calls Tryd.prog 44 #[.int .i64 0, .int .u64 x] w fun e w' => e = .returned (.int .u64 (bk a p (bk b q (bk c r x)) : Nat)) ∧ Below w.heap.size w w' := by
  go_enter Tryd.func44, Tryd.ntmps44
  go_wp2
  go_loopw [1, 5] (fun v i wr => ∃ j : Nat, j ≤ 3 ∧ i = .int .i64 ((j : Int) - 1) ∧ v = .int .u64 (undos a b c p q r x j : Nat) ∧ Below w.heap.size w wr) (fun _ i _ => (intOf i + 1).toNat)
  case atStart => exact ⟨3, by omega, rfl, rfl, Below.refl _ _⟩
  case round =>
    obtain ⟨j, hj, rfl, rfl, hnx⟩ := hrel
    have hl := undos_lt a b c p q r x j hj hx
    have hz := hnx.size
    rcases (show j = 3 ∨ j = 2 ∨ j = 1 ∨ j = 0 from by omega) with h | h | h | h
    · subst h
      have hs := unfold_bk c (undos a b c p q r x 3) r hc.1 hc.2
      have hc0 := (hnx.cell (p := ⟨0, 4, none⟩) h6).trans h4
      have hc1 := (hnx.cell (p := ⟨0, 5, none⟩) h6).trans h5
      have hm := mul_expr (undos a b c p q r x 3) (invN r)
      have hml : undos a b c p q r x 3 * invN r % M < 18446744073709551616 := Nat.mod_lt _ (by decide)
      rw [show (((3 : Nat) : Int) - 1) = 2 from rfl]
      generalize hd : undos a b c p q r x 3 = d at *
      generalize hd2 : d * invN r % M = m at *
      have HD := Lib.hid hd
      have HS := Lib.hid hs
      have HM := Lib.hid hd2
      clear hd hs hd2
      go_wp2
      go_quiet (first | (go_at_call 51; exact quiet_still (inverse_any _ hr _)) | (go_at_call 50; exact quiet_still (unfold_any _ _ hml _)))
      go_wp2
      go_roundw
      case rel => exact ⟨2, by omega, rfl, by rw [HS.out, ← HD.out]; rfl, below_more hnx hz _ _⟩
      case measure => simp [intOf]
    · subst h
      have hs := unfold_bk b (undos a b c p q r x 2) q hb.1 hb.2
      have hc0 := (hnx.cell (p := ⟨0, 2, none⟩) h6).trans h2
      have hc1 := (hnx.cell (p := ⟨0, 3, none⟩) h6).trans h3
      have hm := mul_expr (undos a b c p q r x 2) (invN q)
      have hml : undos a b c p q r x 2 * invN q % M < 18446744073709551616 := Nat.mod_lt _ (by decide)
      rw [show (((2 : Nat) : Int) - 1) = 1 from rfl]
      generalize hd : undos a b c p q r x 2 = d at *
      generalize hd2 : d * invN q % M = m at *
      have HD := Lib.hid hd
      have HS := Lib.hid hs
      have HM := Lib.hid hd2
      clear hd hs hd2
      go_wp2
      go_quiet (first | (go_at_call 51; exact quiet_still (inverse_any _ hq _)) | (go_at_call 50; exact quiet_still (unfold_any _ _ hml _)))
      go_wp2
      go_roundw
      case rel => exact ⟨1, by omega, rfl, by rw [HS.out, ← HD.out]; rfl, below_more hnx hz _ _⟩
      case measure => simp [intOf]
    · subst h
      have hs := unfold_bk a (undos a b c p q r x 1) p ha.1 ha.2
      have hc0 := (hnx.cell (p := ⟨0, 0, none⟩) h6).trans h0
      have hc1 := (hnx.cell (p := ⟨0, 1, none⟩) h6).trans h1
      have hm := mul_expr (undos a b c p q r x 1) (invN p)
      have hml : undos a b c p q r x 1 * invN p % M < 18446744073709551616 := Nat.mod_lt _ (by decide)
      rw [show (((1 : Nat) : Int) - 1) = 0 from rfl]
      generalize hd : undos a b c p q r x 1 = d at *
      generalize hd2 : d * invN p % M = m at *
      have HD := Lib.hid hd
      have HS := Lib.hid hs
      have HM := Lib.hid hd2
      clear hd hs hd2
      go_wp2
      go_quiet (first | (go_at_call 51; exact quiet_still (inverse_any _ hp _)) | (go_at_call 50; exact quiet_still (unfold_any _ _ hml _)))
      go_wp2
      go_roundw
      case rel => exact ⟨0, by omega, rfl, by rw [HS.out, ← HD.out]; rfl, below_more hnx hz _ _⟩
      case measure => simp [intOf]
    · subst h
      go_wp2
      go_ret
      exact ⟨rfl, hnx⟩
end Go.Proofs.YtmjcdondogpceaaDoor.mx
