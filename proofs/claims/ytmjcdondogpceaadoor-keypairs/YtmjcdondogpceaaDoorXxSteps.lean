/-
  The steps of the digest, in package xx and in its reference: a round of a sum, bytes as a number, the last mixing, the numbers P1 to P5: what each returns; what was there stays as it was.
-/
import Derived.Test.YtmjcdondogpceaaDoorXxTurn
namespace Go.Proofs.YtmjcdondogpceaaDoor.xx
open Go.ChangeShapes Go.WideShapes Go.ChangeAt Go.RowKit
theorem mul_expr (a b : Nat) : IntKind.u64.wrap ((a : Int) * b) = ((a * b % M : Nat) : Int) := by rw [IntKind.wrap_u64]; simp [M]
theorem add_expr (a b : Nat) : IntKind.u64.wrap ((a : Int) + b) = (((a + b) % M : Nat) : Int) := by rw [IntKind.wrap_u64]; simp [M]
theorem xor_expr (a b : Nat) (ha : a < 18446744073709551616) (hb : b < 18446744073709551616) : bits BinOp.xor IntKind.u64 (a : Int) (b : Int) = ((a ^^^ b : Nat) : Int) := u64_xor_nat _ _ ha hb
theorem ret_nat {a b : Nat} (h : a = b) : Ending.returned (.int .u64 (a : Int)) = .returned (.int .u64 (b : Int)) := by rw [h]
theorem turn_31 (y : Nat) (hy : y < 18446744073709551616) (w : World) : Calls Tryd.prog 54 #[.int .u64 y, .int .i64 31] w fun e w' => e = .returned (.int .u64 (turnN y 31 : Nat)) ∧ w = w' := turn_any y 31 hy w
theorem round_any (s x : Nat) (w : World) :
    Calls Tryd.prog 52 #[.int .u64 s, .int .u64 x] w fun e w' => e = .returned (.int .u64 (rnd s x : Nat)) ∧ w = w' := by
  have e1 : IntKind.u64.wrap ((x : Int) * 14029467366897019727) = ((x * 14029467366897019727 % M : Nat) : Int) := mul_expr x 14029467366897019727
  have e2 := add_expr s (x * 14029467366897019727 % M)
  have hy : (s + x * 14029467366897019727 % M) % M < 18446744073709551616 := Nat.mod_lt _ (by decide)
  have e3 : IntKind.u64.wrap (((turnN ((s + x * 14029467366897019727 % M) % M) 31 : Nat) : Int) * 11400714785074694791) = ((rnd s x : Nat) : Int) := by
    rw [rnd_eq]; exact mul_expr _ 11400714785074694791
  generalize x * 14029467366897019727 % M = z at *
  generalize (s + z) % M = y at *
  generalize ht : turnN y 31 = t at *
  have HT := Lib.hid ht
  clear ht
  go_enter Tryd.func52, Tryd.ntmps52
  go_wp2_with fail
  refine (turn_31 y hy _).mono ?_
  rintro e w1 ⟨rfl, rfl⟩
  rw [HT.out]
  go_wp2
  go_ret
  exact ⟨rfl, rfl⟩
/-- the slice at a, of n bytes, reads as l. -/
def Row (w : World) (a : Option Addr) (n : Nat) (l : List Nat) : Prop :=
  l.length = n ∧ (0 < n → ∃ b off, a = some ⟨b, off, none⟩ ∧ ∀ i, i < n → w.cell? ⟨b, off + i, none⟩ = some (.int .u8 ((l.getD i 0 : Nat) : Int)))
theorem or_expr (t v k : Nat) (hk : k < 8) (hv : v < 256) (ht : t < 2 ^ (8 * k)) : bits BinOp.or IntKind.u64 (t : Int) (IntKind.u64.wrap ((v : Int) * 2 ^ (8 * k))) = ((t ||| v * 2 ^ (8 * k) : Nat) : Int) := by
  have hp : (2 : Nat) ^ (8 * k) ≤ 2 ^ 56 := Nat.pow_le_pow_right (by decide) (by omega)
  have hp' : (2 : Nat) ^ (8 * k) ≤ 72057594037927936 := hp
  have hm : v * 2 ^ (8 * k) < 18446744073709551616 := by
    calc v * 2 ^ (8 * k) ≤ 255 * 2 ^ (8 * k) := Nat.mul_le_mul_right _ (by omega)
      _ < 18446744073709551616 := by omega
  have e : IntKind.u64.wrap ((v : Int) * 2 ^ (8 * k)) = ((v * 2 ^ (8 * k) : Nat) : Int) := by
    have : ((v : Int) * 2 ^ (8 * k)) = ((v * 2 ^ (8 * k) : Nat) : Int) := by simp
    rw [this, IntKind.wrap_u64]
    omega
  rw [e, u64_or_nat _ _ (by omega) hm]
theorem number_any (a : Option Addr) (n cap : Nat) (l : List Nat) (w : World) (hr : Row w a n l) (hn : n ≤ 8) (hl : bytes l) :
    Calls Tryd.prog 53 #[.slice a n cap] w fun e w' => e = .returned (.int .u64 (num l : Nat)) ∧ w = w' := by
  have HR := Lib.hid hr
  have HL := Lib.hid hl
  clear hr hl
  go_enter Tryd.func53, Tryd.ntmps53
  go_wp2
  go_loop [3, 8] (fun s i => ∃ k : Nat, k ≤ n ∧ i = .int .i64 k ∧ s = .int .u64 ((num (l.take k) : Nat) : Int)) (fun _ i => n - (intOf i).toNat)
  case atStart => exact ⟨0, by omega, rfl, rfl⟩
  case round =>
    obtain ⟨k, hk, rfl, rfl⟩ := hrel
    by_cases hlt : k < n
    · obtain ⟨b, off, rfl, hc⟩ := HR.out.2 (by omega)
      have hcell := hc k hlt
      have hb := bytes_get HL.out k
      have hs := num_take l k (by have := HR.out.1; omega) HL.out
      have HS := Lib.hid hs
      clear hc hs
      generalize hv : l.getD k 0 = v at *
      generalize ht : num (l.take k) = t at *
      clear hv
      have HT := Lib.hid ht
      clear ht
      go_wp2
      go_round
      case rel => exact ⟨k + 1, by omega, by go_num, by rw [HS.out.1, or_expr t v k (by omega) hb HS.out.2]⟩
      case measure => simp [intOf]; omega
    · have : k = n := by omega
      subst this
      have e : num (l.take k) = num l := by rw [List.take_of_length_le (by have := HR.out.1; omega)]
      have E := Lib.hid e
      clear e
      go_wp2
      go_ret
      exact ⟨ret_nat E.out, rfl⟩
theorem refnumber_any (a : Option Addr) (n cap : Nat) (l : List Nat) (w : World) (hr : Row w a n l) (hn : n ≤ 8) (hl : bytes l) :
    Calls Tryd.prog 39 #[.slice a n cap] w fun e w' => e = .returned (.int .u64 (num l : Nat)) ∧ w = w' := by
  have HR := Lib.hid hr
  have HL := Lib.hid hl
  clear hr hl
  go_enter Tryd.func39, Tryd.ntmps39
  go_wp2
  go_loop [3, 4] (fun x i => ∃ k : Nat, k ≤ n ∧ i = .int .i64 ((k : Int) - 1) ∧ x = .int .u64 ((num (l.drop k) : Nat) : Int)) (fun _ i => (intOf i + 1).toNat)
  case atStart => exact ⟨n, by omega, rfl, by rw [List.drop_eq_nil_of_le (by rw [HR.out.1]; omega)]; rfl⟩
  case round =>
    obtain ⟨k, hk, rfl, rfl⟩ := hrel
    cases k with
    | zero =>
      go_wp2
      go_ret
      exact ⟨rfl, rfl⟩
    | succ j =>
      obtain ⟨b, off, rfl, hc⟩ := HR.out.2 (by omega)
      have hlt := num_drop_lt l HL.out (by have := HR.out.1; omega) (j + 1) (by omega)
      have hcj := hc j (by omega)
      have hd := num_drop l j (by have := HR.out.1; omega)
      have h2 := bytes_get HL.out j
      have HD := Lib.hid hd
      clear hd hc
      generalize l.getD j 0 = b at *
      generalize num (l.drop (j + 1)) = y at *
      have hj : ((j + 1 : Nat) : Int) - 1 = (j : Int) := by omega
      rw [hj]
      have HJ := Lib.hid hj
      clear hj
      go_wp2
      go_round
      case rel => exact ⟨j, by omega, by go_num, by rw [HD.out]; go_num⟩
      case measure => simp [intOf]
theorem ended_of (h x y z : Nat) (hh : h < 18446744073709551616) (l1 : x < 18446744073709551616) (l2 : y < 18446744073709551616) (e1 : IntKind.u64.wrap (((foZ h 33 : Nat) : Int) * 14029467366897019727) = (x : Int))
    (e2 : IntKind.u64.wrap (((foZ x 29 : Nat) : Int) * 1609587929392839161) = (y : Int)) (ez : foZ y 32 = z) (w : World) :
    Calls Tryd.prog 48 #[.int .u64 h] w fun e w' => e = .returned (.int .u64 (z : Nat)) ∧ w = w' := by
  have EZ := Lib.hid ez
  clear ez
  go_enter Tryd.func48, Tryd.ntmps48
  go_wp2_with fail
  refine (fold_any _ _ hh _).mono ?_
  rintro e w1 ⟨rfl, rfl⟩
  go_wp2_with fail
  refine (fold_any _ _ l1 _).mono ?_
  rintro e w1 ⟨rfl, rfl⟩
  go_wp2_with fail
  refine (fold_any _ _ l2 _).mono ?_
  rintro e w1 ⟨rfl, rfl⟩
  rw [EZ.out]
  go_wp2
  go_ret
  exact ⟨rfl, rfl⟩
theorem fold_mul (h k c : Nat) (hk : 1 ≤ k ∧ k < 64) : IntKind.u64.wrap (((foZ h (k : Int) : Nat) : Int) * c) = ((fo k h * c % M : Nat) : Int) := by
  rw [foZ_fo h k hk]; exact mul_expr _ c
theorem ended_any (h : Nat) (hh : h < 18446744073709551616) (w : World) :
    Calls Tryd.prog 48 #[.int .u64 h] w fun e w' => e = .returned (.int .u64 (fin h : Nat)) ∧ w = w' :=
  ended_of h (fo 33 h * 14029467366897019727 % M) (fo 29 (fo 33 h * 14029467366897019727 % M) * 1609587929392839161 % M) (fin h) hh (Nat.mod_lt _ (by decide)) (Nat.mod_lt _ (by decide))
    (fold_mul h 33 14029467366897019727 (by decide)) (fold_mul (fo 33 h * 14029467366897019727 % M) 29 1609587929392839161 (by decide))
    (by rw [fin_eq]; exact foZ_fo _ 32 (by decide)) w
/-! the numbers P1 to P5 of the reference -/
theorem p1_any (w : World) : Calls Tryd.prog 35 #[.int .i64 1] w fun e w' => e = .returned (.int .u64 11400714785074694791) ∧ Below w.heap.size w w' := by
  go_enter Tryd.func35, Tryd.ntmps35
  go_wp2
  go_ret
  exact ⟨rfl, (Below.refl _ _).alloc (Nat.le_refl _) _⟩
theorem p2_any (w : World) : Calls Tryd.prog 35 #[.int .i64 2] w fun e w' => e = .returned (.int .u64 14029467366897019727) ∧ Below w.heap.size w w' := by
  go_enter Tryd.func35, Tryd.ntmps35
  go_wp2
  go_ret
  exact ⟨rfl, (Below.refl _ _).alloc (Nat.le_refl _) _⟩
theorem p3_any (w : World) : Calls Tryd.prog 35 #[.int .i64 3] w fun e w' => e = .returned (.int .u64 1609587929392839161) ∧ Below w.heap.size w w' := by
  go_enter Tryd.func35, Tryd.ntmps35
  go_wp2
  go_ret
  exact ⟨rfl, (Below.refl _ _).alloc (Nat.le_refl _) _⟩
theorem p4_any (w : World) : Calls Tryd.prog 35 #[.int .i64 4] w fun e w' => e = .returned (.int .u64 9650029242287828579) ∧ Below w.heap.size w w' := by
  go_enter Tryd.func35, Tryd.ntmps35
  go_wp2
  go_ret
  exact ⟨rfl, (Below.refl _ _).alloc (Nat.le_refl _) _⟩
theorem p5_any (w : World) : Calls Tryd.prog 35 #[.int .i64 5] w fun e w' => e = .returned (.int .u64 2870177450012600261) ∧ Below w.heap.size w w' := by
  go_enter Tryd.func35, Tryd.ntmps35
  go_wp2
  go_ret
  exact ⟨rfl, (Below.refl _ _).alloc (Nat.le_refl _) _⟩
theorem bnext {w0 w1 w2 : World} (h : Below w0.heap.size w0 w1) (h' : Below w1.heap.size w1 w2) : Below w0.heap.size w0 w2 := h.trans (h'.mono h.size)
theorem refturn_31 (y : Nat) (hy : y < 18446744073709551616) (w : World) : Calls Tryd.prog 37 #[.int .u64 y, .int .i64 31] w fun e w' => e = .returned (.int .u64 (turnN y 31 : Nat)) ∧ Below w.heap.size w w' := refturn_any y 31 hy (by decide) (by decide) w
theorem refround_any (s x : Nat) (w : World) :
    Calls Tryd.prog 38 #[.int .u64 s, .int .u64 x] w fun e w' => e = .returned (.int .u64 (rnd s x : Nat)) ∧ Below w.heap.size w w' := by
  have e1 : IntKind.u64.wrap ((x : Int) * 14029467366897019727) = ((x * 14029467366897019727 % M : Nat) : Int) := mul_expr x 14029467366897019727
  have e2 := add_expr s (x * 14029467366897019727 % M)
  have hy : (s + x * 14029467366897019727 % M) % M < 18446744073709551616 := Nat.mod_lt _ (by decide)
  have e3 : IntKind.u64.wrap (((turnN ((s + x * 14029467366897019727 % M) % M) 31 : Nat) : Int) * 11400714785074694791) = ((rnd s x : Nat) : Int) := by
    rw [rnd_eq]; exact mul_expr _ 11400714785074694791
  generalize x * 14029467366897019727 % M = z at *
  generalize (s + z) % M = y at *
  generalize ht : turnN y 31 = t at *
  have HT := Lib.hid ht
  clear ht
  go_enter Tryd.func38, Tryd.ntmps38
  go_wp2_with fail
  refine (p2_any _).mono ?_
  rintro e w1 ⟨rfl, b1⟩
  go_wp2_with fail
  refine (refturn_31 y hy _).mono ?_
  rintro e w2 ⟨rfl, b2⟩
  rw [HT.out]
  go_wp2_with fail
  refine (p1_any _).mono ?_
  rintro e w3 ⟨rfl, b3⟩
  go_wp2
  go_ret
  exact ⟨rfl, bnext (bnext b1 b2) b3⟩
end Go.Proofs.YtmjcdondogpceaaDoor.xx
