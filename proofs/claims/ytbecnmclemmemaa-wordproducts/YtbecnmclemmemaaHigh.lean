/-
  High of package word, by its contract: for any two words it returns the upper word of their product; what was there stays as it was.
-/
import Derived.Test.YtbecnmclemmemaaTurn
import Derived.Laws.MathBits
namespace Go.Proofs.Ytbecnmclemmemaa
open Go.ChangeShapes Go.WideShapes Go.ChangeAt Go.RowKit
/-- the one cell that the closure keeps, at block b, holds c; below b all is as it was in W. -/
def Acc (W : World) (b : Nat) (c : Int) (w : World) : Prop := w.cell? ⟨b, 0, none⟩ = some (.int .u64 c) ∧ w.frozen? ⟨b, 0, none⟩ = false ∧ Below b W w
theorem Acc.set {W w : World} {b : Nat} {c : Int} (h : Acc W b c w) (d : Int) : Acc W b d (w.setCell ⟨b, 0, none⟩ (.int .u64 d)) :=
  ⟨World.cell?_setCell_same _ _ _ h.1, (World.frozen?_setCell _ _ _ _).trans h.2.1, h.2.2.setCell (Nat.le_refl _) _⟩
theorem mul_fits (x y a c : Int) (x0 : 0 ≤ x) (x1 : x ≤ 4294967295) (y0 : 0 ≤ y) (y1 : y ≤ 4294967295) (a0 : 0 ≤ a) (a1 : a ≤ 4294967295) (c0 : 0 ≤ c) (c1 : c ≤ 4294967295) :
    IntKind.u64.wrap (IntKind.u64.wrap (IntKind.u64.wrap (x * y) + a) + c) = x * y + a + c ∧ 0 ≤ x * y + a + c ∧ x * y + a + c < 18446744073709551616 := by
  have h0 : 0 ≤ x * y := Int.mul_nonneg x0 y0
  have h1 : x * y ≤ 4294967295 * 4294967295 := Int.mul_le_mul x1 y1 y0 (by decide)
  generalize x * y = p at *
  rw [IntKind.wrap_u64, IntKind.wrap_u64, IntKind.wrap_u64]
  omega
set_option maxHeartbeats 1600000 in
theorem mult_any (W : World) (b : Nat) (x y a c : Int) (x0 : 0 ≤ x) (x1 : x ≤ 4294967295) (y0 : 0 ≤ y) (y1 : y ≤ 4294967295) (a0 : 0 ≤ a) (a1 : a ≤ 4294967295) (c0 : 0 ≤ c) (c1 : c ≤ 4294967295) (w : World) (hA : Acc W b c w) :
    Calls Try.prog 24 #[.int .u64 x, .int .u64 y, .int .u64 a, .pointer (some ⟨b, 0, none⟩)] w fun e w' => e = .returned (.int .u64 ((x * y + a + c) % 4294967296)) ∧ Acc W b ((x * y + a + c) / 4294967296) w' := by
  obtain ⟨e, l0, l1⟩ := mul_fits x y a c x0 x1 y0 y1 a0 a1 c0 c1
  have hc := hA.1
  have hf := hA.2.1
  generalize x * y + a + c = s at *
  have hm := and_low32 s l0 l1
  have HA := Lib.hid hA
  clear hA x0 x1 y0 y1 a0 a1
  go_enter Try.func24, Try.ntmps24
  go_wp2
  go_ret
  exact ⟨rfl, HA.out.set _⟩
/-- what a call of the closure leaves: the lower half r is told, the upper half d is kept. -/
def Left (W : World) (b : Nat) (s : Int) (e : Ending) (w' : World) : Prop :=
  ∃ r d : Int, e = .returned (.int .u64 r) ∧ Acc W b d w' ∧ 0 ≤ r ∧ r ≤ 4294967295 ∧ 0 ≤ d ∧ d ≤ 4294967295 ∧ Hid (s = d * 4294967296 + r)
theorem mult_left (W : World) (b : Nat) (x y a c : Int) (x0 : 0 ≤ x) (x1 : x ≤ 4294967295) (y0 : 0 ≤ y) (y1 : y ≤ 4294967295) (a0 : 0 ≤ a) (a1 : a ≤ 4294967295) (c0 : 0 ≤ c) (c1 : c ≤ 4294967295) (w : World) (hA : Acc W b c w) :
    Calls Try.prog 24 #[.int .u64 x, .int .u64 y, .int .u64 a, .pointer (some ⟨b, 0, none⟩)] w (Left W b (x * y + a + c)) :=
  (mult_any W b x y a c x0 x1 y0 y1 a0 a1 c0 c1 w hA).mono fun e w' ⟨he, hA'⟩ => by
    obtain ⟨_, l0, l1⟩ := mul_fits x y a c x0 x1 y0 y1 a0 a1 c0 c1
    generalize x * y + a + c = s at *
    exact ⟨_, _, he, hA', by omega, by omega, by omega, by omega, Lib.hid (by omega)⟩
set_option maxHeartbeats 400000 in
theorem half_any (w : World) :
    Calls Try.prog 22 #[] w fun e w' => e = .returned (.func (.func 24) #[] #[.pointer (some ⟨w.heap.size, 0, none⟩)]) ∧ Acc w w.heap.size 0 w' := by
  go_enter Try.func22, Try.ntmps22
  go_wp2
  go_ret
  exact ⟨rfl, by simp, by simp, (Below.refl _ _).alloc (Nat.le_refl _) _⟩
theorem join32 (f t : Int) (f0 : 0 ≤ f) (f1 : f ≤ 4294967295) (t0 : 0 ≤ t) (t1 : t ≤ 4294967295) : bits BinOp.or IntKind.u64 (f * 4294967296) t = f * 4294967296 + t := by
  rw [u64_or _ _ (by omega) (by omega) t0 (by omega), nat_join 32 _ _ (by omega) (by omega)]
  omega
theorem high_math (aL aH bL bH a b c0 r0 c1 r1 c2 r2 c3 r3 c4 r4 c5 r5 : Int) (ha : a = aH * 4294967296 + aL) (hb : b = bH * 4294967296 + bL)
    (h0 : aL * bL + 0 + 0 = c0 * 4294967296 + r0) (h1 : aH * bL + 0 + c0 = c1 * 4294967296 + r1) (h2 : 0 * 0 + 0 + c1 = c2 * 4294967296 + r2) (h3 : aL * bH + r1 + c2 = c3 * 4294967296 + r3) (h4 : aH * bH + r2 + c3 = c4 * 4294967296 + r4) (h5 : 0 * 0 + 0 + c4 = c5 * 4294967296 + r5)
    (b0 : 0 ≤ r0 ∧ r0 ≤ 4294967295) (b2 : 0 ≤ r2 ∧ r2 ≤ 4294967295) (b3 : 0 ≤ r3 ∧ r3 ≤ 4294967295) (_b4 : 0 ≤ r4 ∧ r4 ≤ 4294967295) (b5 : 0 ≤ r5 ∧ r5 ≤ 4294967295)
    (d1 : 0 ≤ c1 ∧ c1 ≤ 4294967295) (d4 : 0 ≤ c4 ∧ c4 ≤ 4294967295) (d5 : 0 ≤ c5) (d2 : 0 ≤ c2) : r5 * 4294967296 + r4 = a * b / 18446744073709551616 := by
  have e : a * b = aH * bH * 18446744073709551616 + (aH * bL + aL * bH) * 4294967296 + aL * bL := by subst ha hb; grind
  rw [e]
  generalize aH * bH = p11 at *
  generalize aH * bL = p10 at *
  generalize aL * bH = p01 at *
  generalize aL * bL = p00 at *
  have : c2 = 0 := by omega
  have : c5 = 0 := by omega
  subst c2 c5
  have x2 : r2 = c1 := by omega
  have x5 : r5 = c4 := by omega
  subst x2 x5
  have y : p11 * 18446744073709551616 + (p10 + p01) * 4294967296 + p00 = (r5 * 4294967296 + r4) * 18446744073709551616 + (r3 * 4294967296 + r0) := by omega
  rw [y]
  omega
set_option maxHeartbeats 1600000 in
theorem high_any (a b : Nat) (ha : a < 18446744073709551616) (hb : b < 18446744073709551616) (w : World) :
    Calls Try.prog 10 #[.int .u64 a, .int .u64 b] w fun e w' => e = .returned (.int .u64 (a * b / 18446744073709551616 : Nat)) ∧ Below w.heap.size w w' := by
  obtain ⟨aL, raL, aL0, aL1, xaL⟩ : ∃ n : Int, bits BinOp.and IntKind.u64 (a : Int) 4294967295 = n ∧ 0 ≤ n ∧ n ≤ 4294967295 ∧ n = (a : Int) % 4294967296 := ⟨_, and_low32 a (by omega) (by omega), by omega, by omega, rfl⟩
  obtain ⟨bL, rbL, bL0, bL1, xbL⟩ : ∃ n : Int, bits BinOp.and IntKind.u64 (b : Int) 4294967295 = n ∧ 0 ≤ n ∧ n ≤ 4294967295 ∧ n = (b : Int) % 4294967296 := ⟨_, and_low32 b (by omega) (by omega), by omega, by omega, rfl⟩
  obtain ⟨aH, raH, aH0, aH1⟩ : ∃ n : Int, (a : Int) / 4294967296 = n ∧ 0 ≤ n ∧ n ≤ 4294967295 := ⟨_, rfl, by omega, by omega⟩
  obtain ⟨bH, rbH, bH0, bH1⟩ : ∃ n : Int, (b : Int) / 4294967296 = n ∧ 0 ≤ n ∧ n ≤ 4294967295 := ⟨_, rfl, by omega, by omega⟩
  have XA := Lib.hid (show (a : Int) = aH * 4294967296 + aL from by omega)
  have XB := Lib.hid (show (b : Int) = bH * 4294967296 + bL from by omega)
  clear xaL xbL
  go_enter Try.func10, Try.ntmps10
  go_wp2_with fail
  refine (half_any _).mono ?_
  rintro e w0 ⟨rfl, k0⟩
  go_wp2_with fail
  refine (mult_left _ _ aL bL 0 0 aL0 aL1 bL0 bL1 (by omega) (by omega) (by omega) (by omega) _ k0).mono ?_
  rintro e w1 ⟨r0, c0, rfl, k1, r00, r01, c00, c01, E0⟩
  clear k0
  go_wp2_with fail
  refine (mult_left _ _ aH bL 0 c0 aH0 aH1 bL0 bL1 (by omega) (by omega) c00 c01 _ k1).mono ?_
  rintro e w2 ⟨r1, c1, rfl, k2, r10, r11, c10, c11, E1⟩
  clear k1
  go_wp2_with fail
  refine (mult_left _ _ 0 0 0 c1 (by omega) (by omega) (by omega) (by omega) (by omega) (by omega) c10 c11 _ k2).mono ?_
  rintro e w3 ⟨r2, c2, rfl, k3, r20, r21, c20, c21, E2⟩
  clear k2
  go_wp2_with fail
  refine (mult_left _ _ aL bH r1 c2 aL0 aL1 bH0 bH1 r10 r11 c20 c21 _ k3).mono ?_
  rintro e w4 ⟨r3, c3, rfl, k4, r30, r31, c30, c31, E3⟩
  clear k3
  go_wp2_with fail
  refine (mult_left _ _ aH bH r2 c3 aH0 aH1 bH0 bH1 r20 r21 c30 c31 _ k4).mono ?_
  rintro e w5 ⟨r4, c4, rfl, k5, r40, r41, c40, c41, E4⟩
  clear k4
  go_wp2_with fail
  refine (mult_left _ _ 0 0 0 c4 (by omega) (by omega) (by omega) (by omega) (by omega) (by omega) c40 c41 _ k5).mono ?_
  rintro e w6 ⟨r5, c5, rfl, k6, r50, r51, c50, c51, E5⟩
  clear k5
  go_wp2
  go_ret
  refine ⟨congrArg Ending.returned (congrArg (Value.int IntKind.u64) ?_), k6.2.2⟩
  rw [join32 r5 r4 r50 r51 r40 r41, high_math aL aH bL bH a b c0 r0 c1 r1 c2 r2 c3 r3 c4 r4 c5 r5 XA.out XB.out E0.out E1.out E2.out E3.out E4.out E5.out ⟨r00, r01⟩ ⟨r20, r21⟩ ⟨r30, r31⟩ ⟨r40, r41⟩ ⟨r50, r51⟩ ⟨c10, c11⟩ ⟨c40, c41⟩ c50 c20]
  simp
end Go.Proofs.Ytbecnmclemmemaa
