/-
  Next and Go of package fnv, Go of the reference: what each returns for every input of its types; what was there stays as it was.
-/
import Derived.Test.YtmjcdondogpceaaDoorRows
import Derived.Test.YtmjcdondogpceaaDoorFnMath
import Derived.WalkKit
import Derived.ProofKit
import Derived.OpenShut
import Derived.Lib.Hide
import Derived.Laws.Bits64
import Derived.Lib.Walk
import Derived.Lib.Small
import Derived.Lib.BitFns
import Derived.Lib.Strings
import Derived.Laws.IdiomStrings
import Derived.Laws.BytesArg
namespace Go.Proofs.YtmjcdondogpceaaDoor.fn
open Go.ChangeShapes Go.WideShapes Go.ChangeAt Go.RowKit
theorem mul_expr (a b : Nat) : IntKind.u64.wrap ((a : Int) * b) = ((a * b % M : Nat) : Int) := by rw [IntKind.wrap_u64]; simp [M]
theorem add_expr (a b : Nat) : IntKind.u64.wrap ((a : Int) + b) = (((a + b) % M : Nat) : Int) := by rw [IntKind.wrap_u64]; simp [M]
theorem xor_expr (a b : Nat) (ha : a < 18446744073709551616) (hb : b < 18446744073709551616) : bits BinOp.xor IntKind.u64 (a : Int) (b : Int) = ((a ^^^ b : Nat) : Int) := u64_xor_nat _ _ ha hb
theorem ret_nat {a b : Nat} (h : a = b) : Ending.returned (.int .u64 (a : Int)) = .returned (.int .u64 (b : Int)) := by rw [h]
/-- a step: what is reckoned. -/
theorem go1_expr (h b : Nat) (hh : h < 18446744073709551616) (hb : b < 256) : ∃ y : Nat, bits BinOp.xor IntKind.u64 (h : Int) (b : Int) = (y : Int) ∧ y < 18446744073709551616 ∧ IntKind.u64.wrap ((y : Int) * 1099511628211) = ((go1 h b : Nat) : Int) :=
  ⟨h ^^^ b, xor_expr _ _ hh (by omega), xor_lt _ _ hh (Nat.lt_trans hb (by decide)), by rw [go1_eq]; exact mul_expr _ 1099511628211⟩
theorem next_any (h b : Nat) (hh : h < 18446744073709551616) (hb : b < 256) (w : World) :
    Calls Tryd.prog 33 #[.int .u64 h, .int .u8 b] w fun e w' => e = .returned (.int .u64 (go1 h b : Nat)) ∧ w = w' := by
  obtain ⟨y, e1, hy, e2⟩ := go1_expr h b hh hb
  have hw : IntKind.u64.wrap (b : Int) = (b : Int) := by rw [IntKind.wrap_u64]; omega
  go_enter Tryd.func33, Tryd.ntmps33
  go_wp2
  go_ret
  exact ⟨rfl, rfl⟩
/-- the slice at a, of n bytes, reads as l. -/
def Row (w : World) (a : Option Addr) (n : Nat) (l : List Nat) : Prop :=
  l.length = n ∧ (0 < n → ∃ b off, a = some ⟨b, off, none⟩ ∧ ∀ i, i < n → w.cell? ⟨b, off + i, none⟩ = some (.int .u8 ((l.getD i 0 : Nat) : Int)))
theorem go_any (h : Nat) (a : Option Addr) (n cap : Nat) (l : List Nat) (w : World) (hh : h < 18446744073709551616) (hr : Row w a n l) (hl : bytes l) (hn : n ≤ 4611686018427387904) :
    Calls Tryd.prog 20 #[.int .u64 h, .slice a n cap] w fun e w' => e = .returned (.int .u64 (gon h l : Nat)) ∧ w = w' := by
  have HR := Lib.hid hr
  have HL := Lib.hid hl
  clear hr hl
  go_enter Tryd.func20, Tryd.ntmps20
  go_wp2
  go_loop [0, 9] (fun s i => ∃ x k : Nat, k ≤ n ∧ x < 18446744073709551616 ∧ i = .int .i64 k ∧ s = .int .u64 x ∧ gon x (l.drop k) = gon h l) (fun _ i => n - (intOf i).toNat)
  case atStart => exact ⟨h, 0, by omega, hh, rfl, rfl, by rw [List.drop_zero]⟩
  case round =>
    obtain ⟨x, k, hk, hx, rfl, rfl, he⟩ := hrel
    have HE := Lib.hid he
    clear he
    by_cases hlt : k < n
    · obtain ⟨b, off, rfl, hc⟩ := HR.out.2 (by omega)
      have hcell := hc k hlt
      have hb := bytes_get HL.out k
      have hs := gon_step x l k (by have := HR.out.1; omega)
      have HS := Lib.hid hs
      clear hc hs
      generalize hv : l.getD k 0 = v at *
      clear hv
      go_wp2_with fail
      refine (next_any x v hx hb _).mono ?_
      rintro e w1 ⟨rfl, rfl⟩
      go_wp2
      go_round
      case rel => exact ⟨go1 x v, k + 1, by omega, go1_lt _ _, by go_num, rfl, by rw [← HS.out]; exact HE.out⟩
      case measure => simp [intOf]; omega
    · have e : x = gon h l := by rw [← HE.out, gon_end x l k (by have := HR.out.1; omega)]
      have E := Lib.hid e
      clear e
      go_wp2
      go_ret
      exact ⟨ret_nat E.out, rfl⟩
/-- the reference's step: what is reckoned. -/
theorem refgo1_expr (h b : Nat) (hh : h < 18446744073709551616) (hb : b < 256) : ∃ r u z y : Nat, (h : Int) % 256 = (r : Int) ∧ r < 256 ∧ IntKind.u64.wrap ((h : Int) - r) = (u : Int) ∧ u < 18446744073709551616 ∧ bits BinOp.xor IntKind.u64 (r : Int) (b : Int) = (z : Int) ∧ z < 18446744073709551616 ∧
    IntKind.u64.wrap ((u : Int) + z) = (y : Int) ∧ y < 18446744073709551616 ∧ IntKind.u64.wrap ((y : Int) * 1099511628211) = ((go1 h b : Nat) : Int) := by
  have hr : h % 256 < 256 := Nat.mod_lt _ (by decide)
  have hx := xor_low h b hb
  have hy : h ^^^ b < M := xor_lt h b hh (Nat.lt_trans hb (by decide))
  refine ⟨h % 256, h - h % 256, h % 256 ^^^ b, h ^^^ b, by simp, hr, ?_, by omega, xor_expr _ _ (by omega) (by omega), xor_lt _ _ (Nat.lt_trans hr (by decide)) (Nat.lt_trans hb (by decide)), ?_, hy, by rw [go1_eq]; exact mul_expr _ 1099511628211⟩
  · rw [IntKind.wrap_u64]; omega
  · rw [add_expr, hx, Nat.mod_eq_of_lt hy]
theorem refgo_any (h : Nat) (a : Option Addr) (n cap : Nat) (l : List Nat) (w : World) (hh : h < 18446744073709551616) (hr : Row w a n l) (hl : bytes l) (hn : n ≤ 4611686018427387904) :
    Calls Tryd.prog 41 #[.int .u64 h, .slice a n cap] w fun e w' => e = .returned (.int .u64 (gon h l : Nat)) ∧ w = w' := by
  have HR := Lib.hid hr
  have HL := Lib.hid hl
  clear hr hl
  go_enter Tryd.func41, Tryd.ntmps41
  go_wp2
  go_loop [0, 5] (fun s i => ∃ x k : Nat, k ≤ n ∧ x < 18446744073709551616 ∧ i = .int .i64 k ∧ s = .int .u64 x ∧ gon x (l.drop k) = gon h l) (fun _ i => n - (intOf i).toNat)
  case atStart => exact ⟨h, 0, by omega, hh, rfl, rfl, by rw [List.drop_zero]⟩
  case round =>
    obtain ⟨x, k, hk, hx, rfl, rfl, he⟩ := hrel
    have HE := Lib.hid he
    clear he
    by_cases hlt : k < n
    · obtain ⟨b, off, rfl, hc⟩ := HR.out.2 (by omega)
      have hcell := hc k hlt
      have hb := bytes_get HL.out k
      have hs := gon_step x l k (by have := HR.out.1; omega)
      have HS := Lib.hid hs
      clear hc hs
      generalize hv : l.getD k 0 = v at *
      clear hv
      obtain ⟨r, u, z, y, e1, h1, e2, h2, e3, h3, e4, h4, e5⟩ := refgo1_expr x v hx hb
      have hw : IntKind.u64.wrap (v : Int) = (v : Int) := by rw [IntKind.wrap_u64]; omega
      go_wp2
      go_round
      case rel => exact ⟨go1 x v, k + 1, by omega, go1_lt _ _, by go_num, rfl, by rw [← HS.out]; exact HE.out⟩
      case measure => simp [intOf]; omega
    · have e : x = gon h l := by rw [← HE.out, gon_end x l k (by have := HR.out.1; omega)]
      have E := Lib.hid e
      clear e
      go_wp2
      go_ret
      exact ⟨ret_nat E.out, rfl⟩
/-- the string s reads as l. -/
def Codes (s : ByteArray) (l : List Nat) : Prop := l.length = s.size ∧ ∀ i (h : i < s.size), (s[i]'h).toNat = l.getD i 0
end Go.Proofs.YtmjcdondogpceaaDoor.fn
